/- Part of Greater. -/
import Derived.Test.YtkcmachfagcnaaaGreatDoorB07
set_option maxHeartbeats 8000000
set_option maxRecDepth 100000
namespace Go.Proofs.YtkcmachfagcnaaaGreatDoor.C12
open Go.RowKit Go.Deep
def FnsNe(l:List FnAt):Prop:=l.Pairwise fun x y=>∀ a b,x.q=some a->y.q=some b->a.block≠b.block
def zdm(B:Nat)(w:World)(p:Option Addr)(fs:List Fn):Prop:=∃ l:List FnAt,fs=l.map FnAt.f/\FnsNe l/\∀ i (hi:i < l.length),∃ b o,p=some ⟨b,o,none⟩/\b < w.heap.size/\FnCells w b (o+i * 3) (l[i]'hi).f (l[i]'hi).q (l[i]'hi).cap/\InsC w (l[i]'hi).q (l[i]'hi).f.ins/\∀ a,(l[i]'hi).q=some a->B<=a.block/\a.block≠b
theorem zn9{w:World}{base B:Nat}{q:Option Addr}{cap:Nat}{l:List FnAt}(h:w.ownsRow base 47 3 (.slice q l.length cap) l.length (fnRow l))(hI:∀ x∈l,InsC w x.q x.f.ins/\∀ a,x.q=some a->B<=a.block/\(Value.slice q l.length cap).ownBlock≠some a.block)(hne:FnsNe l):zdm B w q (l.map FnAt.f):=by
 refine⟨l,rfl,hne,fun i hi=>?_⟩
 rcases h.2 with⟨e0,h0⟩ | ⟨g,cap,cur,e0,h1,h2,h3,h4,h5,h6⟩
 ·omega
 ·cases e0
  have hg:=(Array.getElem?_eq_some_iff.1 h2).1
  obtain⟨a0,a1,a2⟩:=zjx l i hi
  have c0:=h.cells (g:=g) rfl _ _ a0
  have c1:=h.cells (g:=g) rfl _ _ a1
  have c2:=h.cells (g:=g) rfl _ _ a2
  have hx:=hI _ (List.getElem_mem hi)
  refine⟨g,0,rfl,hg,⟨by rw[zb4] at c0;simpa using c0,by rw[zb4] at c1;simpa using c1,by rw[zb4] at c2;simpa using c2⟩,hx.1,fun a e=>⟨(hx.2 a e).1,fun e2=>(hx.2 a e).2 (by rw[e2];rfl)⟩⟩
def FnsAt(B:Nat)(w:World)(v:Value)(l:List FnAt):Prop:=∀ x∈l,InsC w x.q x.f.ins/\∀ b,x.q=some b->B<=b.block/\b.block < w.heap.size/\v.ownBlock≠some b.block
theorem zn6(S:ByteArray):∀ (n:Nat) (s:List Fn×Rs),¬ s.2.kind=0->funsR S n s=s
 | 0,_,_=>rfl
 | n+1,s,h=>by rw[funsR,if_neg h]
theorem zuz(n:Nat)(hn:n<=4000000)(w:World):(Instr.makeSlice 23 (.int .i64 0) (.int .i64 (n:Int))).run Tryz.prog w=.ok (.slice (some ⟨w.heap.size,0,none⟩) 0 n) (w.alloc (.cells (madeCells #[.int .i64 0,.int .i64 0,.slice none 0 0] (n * 3)) 47)):=by
 obtain⟨i,h1,h2,h3,h4⟩:=zap zqw
 have hr:=run_make (P:=Tryz.prog) w 23 47 i _ Tryz.underlying23 h1 h2 .i64 .i64 0 (n:Int) (by omega) (by omega) (by rw[h4];omega) (by omega)
 rw[h3] at hr
 have e:((n:Int)).toNat=n:=by omega
 rw[e] at hr
 exact hr
theorem zxa(w:World)(n:Nat)(hn:n<=4000000)(base:Nat)(hb:base<=w.heap.size):(w.alloc (.cells (madeCells #[.int .i64 0,.int .i64 0,.slice none 0 0] (n * 3)) 47)).ownsRow base 47 3 (.slice (some ⟨w.heap.size,0,none⟩) 0 n) 0 []:=
 World.ownsRow_made w _ n hb (by unfold maxLen;omega) (by simp[madeCells])
def funsL(S:ByteArray)(pos:Nat):List Fn×Rs:=funsR S (num0 S 2 pos).1.toNat ([],(num0 S 2 pos).2)
inductive FunsPost(w:World)(rp:Nat)(S:ByteArray)(l:List Fn)(r:Rs)(e:Ending)(w':World):Prop
 | mk (q:Option Addr) (m cap:Nat) (he:e=.returned (.tuple #[.slice q m cap,evR r.kind r.fat])) (hr:r.kind=0->m=l.length/\(∀ (X:List Nat) (W:World),Kp X w' W->(∀ y∈X,y < w.heap.size)->zF W q l/\zdm w.heap.size W q l)/\PBox w' rp S r.pos/\r.fat=0/\r.pos<=S.size/\l.length<=65535) (hk:Kp [rp] w w'):FunsPost w rp S l r e w'
theorem zn7(w:World)(rp:Nat)(S:ByteArray)(pos:Nat)(h:PBox w rp S pos)(hSh:ShIn w)(hrp:3≠rp)(hS:S.size<=4000000)(hp:pos<=4000000):Calls Tryz.prog 36 #[.pointer (some ⟨rp,0,none⟩),.func (.func 37) #[] #[]] w fun e w'=>FunsPost w rp S (funsL S pos).1 (funsL S pos).2 e w':=by
 have Hc:Hid _:=zc6 w rp S pos h hS hp
 have hrg:=zfu S pos
 have Hgood:Hid _:=zbm (S:=S) (n:=2) (pos:=pos)
 have Hbad:Hid _:=zie (S:=S) (n:=2) (pos:=pos)
 have HSh:Hid (∀ wx,Kp [rp] w wx->ShIn wx):=fun wx hx=>hSh.of_block (hx.block 3 hSh.lt (by simpa using hrp))
 have hrl:=h.lt
 obtain⟨R,hR⟩:∃ R,R=funsL S pos:=⟨_,rfl⟩
 rw[<-hR]
 unfold funsL at hR
 have HR:=zh hR
 clear hR h hSh
 generalize num0 S 2 pos=A at *
 obtain⟨n,r1⟩:=A
 simp only at Hc hrg Hgood Hbad HR
 obtain⟨k,rfl⟩:∃ k:Nat,n=(k:Int):=⟨n.toNat,by omega⟩
 rw[Int.toNat_natCast] at HR
 have hk16:k<=65535:=by omega
 go_enter Tryz.func36,Tryz.ntmps36
 go_wp2_with fail
 refine cM Hc.o ?_
 rintro e1 w1 ⟨rfl,p1,k1⟩
 have Hp1:Hid (PBox w1 rp S r1.pos/\Kp [rp] w w1):=⟨p1,k1⟩
 clear p1 k1 Hc
 by_cases hz:¬ r1.kind=0
 ·have hk0:(k:Int)=0:=Hbad.o hz
  obtain rfl:k=0:=by omega
  have hR2:R=([],r1):=HR.o
  subst hR2
  have Hev:Hid (evR r1.kind r1.fat=.iface 84 (.agg #[.int .i64 r1.kind,.int .i64 r1.fat])):=zcc hz
  have Hz:Hid (¬ r1.kind=0):=hz
  rw[Hev.o]
  clear hz HR hk0 Hbad Hgood
  go_wp2
  exact bodyPost_ret (v:=.tuple #[.slice none 0 0,.iface 84 (.agg #[.int .i64 r1.kind,.int .i64 r1.fat])]) (by simp[results,Tryz.results36,go_sem]) rfl ⟨none,0,0,by rw[Hev.o],fun h=>absurd h Hz.o,Hp1.o.2⟩
 replace hz:r1.kind=0:=Decidable.not_not.1 hz
 obtain⟨e1,hle⟩:=Hgood.o hz
 subst e1
 clear hz Hbad Hgood
 rw[zcb rfl]
 obtain⟨m,hm⟩:∃ m:Nat,S.size=pos+2+m:=⟨S.size - (pos+2),by omega⟩
 have Hl:Hid _:=zem w1 rp S (pos+2) Hp1.o.1 (by omega) (by omega)
 rw[show(S.size:Int) - ((pos+2:Nat):Int)=(m:Int) by omega] at Hl
 have hm4:m<=4000000:=by omega
 clear hm
 go_upto_region 4 with fail
 go_cut [8] from 19 to 23 (fun v wx=>Hid (wx.ownsRow w.heap.size 47 3 v 0 (fnRow [])/\PBox wx rp S ((pos+2:Nat):Int)/\Kp [rp] w wx))
 case first=>
  go_wp2_with fail
  refine cM Hl.o ?_
  rintro e2 w2 ⟨rfl,k2⟩
  have Hp2:Hid (PBox w2 rp S ((pos+2:Nat):Int)/\Kp [rp] w w2):=⟨PBox.kp Hp1.o.1 k2 (by simp),Kp.trans Hp1.o.2 (Kp.mono k2 (by simp))⟩
  clear Hl k2 Hp1
  have Hmk:Hid (∀ n:Nat,n<=4000000->(w2.alloc (.cells (madeCells #[.int .i64 0,.int .i64 0,.slice none 0 0] (n * 3)) 47)).ownsRow w.heap.size 47 3 (.slice (some ⟨w2.heap.size,0,none⟩) 0 n) 0 (fnRow [])/\PBox (w2.alloc (.cells (madeCells #[.int .i64 0,.int .i64 0,.slice none 0 0] (n * 3)) 47)) rp S ((pos+2:Nat):Int)/\Kp [rp] w (w2.alloc (.cells (madeCells #[.int .i64 0,.int .i64 0,.slice none 0 0] (n * 3)) 47))):=fun n hn=>⟨zxa w2 n hn w.heap.size (Kp.size Hp2.o.2),PBox.kp Hp2.o.1 kA (by simp),Kp.trans Hp2.o.2 (Kp.alloc _ _ _)⟩
  by_cases hkm:(k:Int)<=m
  ·have hmk:=zuz k (by omega) w2
   go_wp2
   go_meet
   exact Hmk.o k (by omega)
  ·have hmk:=zuz m (by omega) w2
   go_wp2
   go_meet
   exact Hmk.o m (by omega)
 case rest=>
  have HQ0:=hcut
  clear hcut Hp1 Hl
  rename World=>w3
  go_wp2_with fail
  go_loopg [8,25] k (fun g vv iv wr=>∃ i:Nat,iv=.int .i64 i/\i<=k/\g=k - i/\Hid (∃ (l:List FnAt) (P:Nat),funsR S (k - i) (l.map FnAt.f,⟨P,0,0⟩)=R/\P<=S.size/\l.length=i/\wr.ownsRow w.heap.size 47 3 vv l.length (fnRow l)/\PBox wr rp S P/\Kp [rp] w wr/\FnsAt w.heap.size wr vv l/\FnsNe l))
  case atStart=>exact⟨0,rfl,by omega,by omega,[],pos+2,HR.o.symm,hle,rfl,HQ0.o.1,HQ0.o.2.1,HQ0.o.2.2,(fun x hx=>by cases hx),List.Pairwise.nil⟩
  case round=>
   clear HQ0 HR
   obtain⟨i,rfl,hi1,rfl,HQ⟩:=hrel
   obtain⟨l,P,q1,q2,q3,q4,q5,q6,q7,q8⟩:=HQ.o
   clear HQ
   by_cases hi:i < k
   ·have hi':(i:Int) < k:=by omega
    have Hc:Hid _:=zt1 wr rp S P q5 (HSh.o wr q6) hrp hS (by omega)
    rw[show k - i=(k - (i+1))+1 by omega,funsR,if_pos rfl] at q1
    have e0:funR S ⟨P,0,0⟩=fun0 S P:=rfl
    simp only[e0] at q1
    clear e0
    generalize fun0 S P=A at *
    obtain⟨f,r2⟩:=A
    simp only at Hc q1
    have Hq:Hid _:=And.intro q1 (And.intro q3 (And.intro q4 (And.intro q6 (And.intro q7 q8))))
    clear q1 q2 q3 q4 q5 q6 q7 q8
    go_wp2_with fail
    refine cM Hc.o ?_
    rintro e4 w4 ⟨fa,fb,fq,fm,fc,rfl,hq4,k4⟩
    have H5:Hid (Kp [] w4 (w4.alloc (.cells #[.int .i64 fa,.int .i64 fb,.slice fq fm fc] 47))/\Kp [rp] wr w4/\UBox (w4.alloc (.cells #[.int .i64 fa,.int .i64 fb,.slice fq fm fc] 47)) w4.heap.size fa fb fq fm fc):=⟨Kp.alloc _ _ _,k4,(MapKept.heap_alloc w4 _).1⟩
    have Hq4:=zh hq4
    clear hq4 k4 Hc
    go_upto_region 8 with fail
    generalize w4.alloc (.cells #[.int .i64 fa,.int .i64 fb,.slice fq fm fc] 47)=w5 at *
    have Hx:Hid (UBox w5 w4.heap.size fa fb fq fm fc):=H5.o.2.2
    have HK:Hid (Kp [rp] wr w5):=Kp.trans H5.o.2.1 (Kp.mono H5.o.1 (by simp))
    generalize w4.heap.size=xb at Hx ⊢
    obtain⟨x0,x1,x2,_⟩:=UBox.cells Hx.o
    have x3:=UBox.lt Hx.o
    by_cases hz:¬ r2.kind=0
    ·have hR2:(l.map FnAt.f++[f],r2)=R:=by rw[<-Hq.o.1,zn6 S _ _ hz]
     subst hR2
     have Hev:Hid (evR r2.kind r2.fat=.iface 84 (.agg #[.int .i64 r2.kind,.int .i64 r2.fat])):=zcc hz
     have Hz:Hid (¬ r2.kind=0):=hz
     have HK2:Hid (Kp [rp] w w5):=Kp.trans Hq.o.2.2.2.1 HK.o
     rw[Hev.o]
     clear hz Hq Hq4 H5
     go_wp2
     exact bodyPost_ret (v:=.tuple #[.slice none 0 0,.iface 84 (.agg #[.int .i64 r2.kind,.int .i64 r2.fat])]) (by simp[results,Tryz.results36,go_sem]) rfl ⟨none,0,0,by rw[Hev.o],fun h=>absurd h Hz.o,HK2.o⟩
    ·replace hz:r2.kind=0:=Decidable.not_not.1 hz
     obtain⟨rfl,rfl,rfl,hIn,hfr,hPB,hfat,hps,hfl⟩:=Hq4.o hz
     obtain⟨P2,k2,f2⟩:=r2
     simp only at hz hfat hps hPB
     subst hz
     subst hfat
     rw[zcb rfl]
     obtain⟨q1,q3,q4,q6,q7,q8⟩:=Hq.o
     have hne9:FnsNe (l++[⟨f,fq,fc⟩]):=by
      unfold FnsNe
      rw[List.pairwise_append]
      refine⟨q8,List.pairwise_singleton _ _,fun x hx y hy a b ha hb=>?_⟩
      rw[List.mem_singleton.1 hy] at hb
      have h1:=((q7 x hx).2 a ha).2.1
      have h2:=(hfr b hb).1
      omega
     clear q8
     have hown:w5.ownsRow w.heap.size 47 3 u8 l.length (fnRow l):=ownsRow.kp q4 HK.o (fun g hg=>by have:=(q4.lt g hg).1;simp only[List.mem_singleton];omega)
     have hnew:FnsAt w.heap.size w5 u8 (l++[⟨f,fq,fc⟩]):=fun x hx=>by
      rcases List.mem_append.1 hx with hx | hx
      ·obtain⟨a1,a2⟩:=q7 x hx
       refine⟨a1.kp HK.o (fun b hb=>by have:=(a2 b hb).1;simp only[List.mem_singleton];omega),fun b hb=>?_⟩
       obtain⟨b1,b2,b3⟩:=a2 b hb
       exact⟨b1,lL b2 HK.o.size,b3⟩
      ·obtain rfl:=List.mem_singleton.1 hx
       refine⟨hIn.kp H5.o.1 (by simp),fun b hb=>?_⟩
       obtain⟨b1,b2⟩:=hfr b hb
       refine⟨Nat.le_trans q6.size b1,lL b2 H5.o.1.size,fun e=>?_⟩
       have:=(q4.lt _ e).2
       omega
     have hPB5:PBox w5 rp S P2:=hPB.kp H5.o.1 (by simp)
     have hK5:Kp [rp] w w5:=q6.trans HK.o
     have hsz5:w.heap.size<=w5.heap.size:=hK5.size
     have hll:l.length<=65535:=by omega
     have Hq5:Hid _:=And.intro q1 (And.intro q3 (And.intro hnew (And.intro hPB5 (And.intro hK5 hne9))))
     clear q1 q3 q4 q6 q7 hnew hPB5 hK5 hne9 hIn hfr hPB Hq Hq4 H5 HK Hx
     obtain⟨i0,hi0,hzz0,hzz1,hzz2⟩:=zap zqw
     go_wp2_with (at_builtin;refine wpList_append_lies _ rfl _ _ 23 rfl w.heap.size 47 i0 (.agg #[.int .i64 0,.int .i64 0,.slice none 0 0]) 3 40 slice23 hi0 hzz0 hzz1 hzz2 rfl (by decide) _ _ _ rfl (hown.alloc _) ⟨w5.heap.size,0,none⟩ 1 1 [.int .i64 f.free,.int .i64 f.sA,.slice fq f.ins.length fc] rfl rfl (zh1 w5 _ _ _ _) (one3s f.free f.sA fq f.ins.length fc) (by decide) (by unfold maxLen;omega) (by omega) (by simp;omega) (w5.heap.size+1) (by simp) ?_)
     intro g9 cap9 w9 ho9 hg9 hat9 hlt9
     have Q:Hid (∃ (l2:List FnAt) (P:Nat),funsR S (k - (i+1)) (l2.map FnAt.f,⟨P,0,0⟩)=R/\P<=S.size/\l2.length=i+1/\w9.ownsRow w.heap.size 47 3 (.slice (some ⟨g9,0,none⟩) (l.length+1) cap9) l2.length (fnRow l2)/\PBox w9 rp S P/\Kp [rp] w w9/\FnsAt w.heap.size w9 (.slice (some ⟨g9,0,none⟩) (l.length+1) cap9) l2/\FnsNe l2):=by
      have hk9:=zih hg9
      have hb:∀ g,u8.ownBlock=some g->w.heap.size<=g:=fun g hg=>(hown.lt g hg).1
      obtain⟨q1,q3,q7,q5,q6,q8⟩:=Hq5.o
      refine⟨l++[⟨f,fq,fc⟩],P2,by rw[<-q1,List.map_append];rfl,hps,by rw[lA,q3];rfl,?_,?_,?_,(fun x hx=>?_),q8⟩
      ·rw[lA,zoc]
       exact ho9
      ·refine PBox.kp (q5.kp kA (by simp)) hk9 (fun hx=>?_)
       have:=hb rp (by simpa using hx)
       omega
      ·exact Kp.then (q6.trans (Kp.alloc _ _ _)) hk9 (fun y hy=>Or.inr (hb y (by simpa using hy)))
      ·obtain⟨a1,a2⟩:=q7 x hx
       refine⟨InsC.kp (a1.kp kA (by simp)) hk9 (fun b hb2 hy=>(a2 b hb2).2.2 (by simpa using hy)),fun b hb2=>?_⟩
       obtain⟨b1,b2,b3⟩:=a2 b hb2
       refine⟨b1,lL b2 (Nat.le_trans (Kp.size (Kp.alloc [] w5 _)) hk9.size),fun e=>?_⟩
       have e2:g9=b.block:=by simpa [Value.ownBlock] using e
       rcases hat9 with h9 | h9
       ·exact b3 (by rw[h9,e2])
       ·omega
     clear ho9 hg9 hat9 hlt9 hown Hq5 x0 x1 x2 x3
     go_wp2
     go_roundg (k - (i+1))
     case measure=>omega
     case rel=>exact⟨i+1,by first | rfl | (congr 1;omega) | go_num,by omega,rfl,Q⟩
   ·have hi':¬ (i:Int) < k:=by omega
    rw[show k - i=0 by omega,funsR] at q1
    subst q1
    have hfun:∀ (X:List Nat) (W:World),Kp X wr W->(∀ y∈X,y < w.heap.size)->∃ q cap,u8=.slice q l.length cap/\zF W q (l.map FnAt.f)/\zdm w.heap.size W q (l.map FnAt.f):=fun X W hk hX=>by
     have ho9:=ownsRow.kp q4 hk (fun g hg hx=>by have:=(q4.lt g hg).1;have:=hX g hx;omega)
     have hI9:∀ x∈l,InsC W x.q x.f.ins:=fun x hx=>(q7 x hx).1.kp hk (fun b hb hy=>by have:=((q7 x hx).2 b hb).1;have:=hX _ hy;omega)
     obtain⟨q,cap,e1,hF9⟩:=zn8 ho9 (by omega) (fun x hx=>(hI9 x hx).ins)
     subst e1
     exact⟨q,cap,rfl,hF9,zn9 ho9 (fun x hx=>⟨hI9 x hx,fun a e=>⟨((q7 x hx).2 a e).1,((q7 x hx).2 a e).2.2⟩⟩) q8⟩
    obtain⟨q,cap,e1,hIn⟩:=hfun [] wr (Kp.refl _ _) (by simp)
    subst e1
    have Hq:Hid _:=And.intro hfun (And.intro q5 (And.intro q2 (And.intro q3 q6)))
    clear q2 q3 q4 q5 q6 q7 q8 hIn hfun
    go_wp2
    refine bodyPost_ret (v:=.tuple #[.slice q l.length cap,.nilIface]) (by simp[results,Tryz.results36,go_sem]) rfl ⟨q,l.length,cap,rfl,fun _=>⟨by simp,fun X W hk hX=>?_,Hq.o.2.1,rfl,Hq.o.2.2.1,by have:=Hq.o.2.2.2.1;simp;omega⟩,Hq.o.2.2.2.2⟩
    obtain⟨q',cap',e',h'⟩:=Hq.o.1 X W hk hX
    cases e'
    exact h'
theorem zen(S:ByteArray):∀ (n i:Nat) (r:Rs),¬ r.kind=0->headR S n i r=r
 | 0,_,_,_=>rfl
 | n+1,i,r,h=>by rw[headR,if_neg h]
inductive HeadPost(w:World)(rp:Nat)(S:ByteArray)(r:Rs)(e:Ending)(w':World):Prop
 | mk (he:e=.returned (evR r.kind r.fat)) (hr:r.kind=0->PBox w' rp S 3/\3<=S.size/\r.fat=0) (hk:Kp [rp] w w'):HeadPost w rp S r e w'
theorem zq0(w:World)(rp:Nat)(S:ByteArray)(h:PBox w rp S 0)(hS:4000000 < S.size):Calls Tryz.prog 33 #[.pointer (some ⟨rp,0,none⟩)] w fun e w'=>e=.returned (.iface 84 (.agg #[.int .i64 1,.int .i64 0]))/\w'=w:=by
 obtain⟨c0,c1,c2,c3⟩:=h.cells
 have hS':(4000000:Int) < S.size:=by omega
 have Hr:Hid _:=zbo 1 0 w
 clear h hS
 go_enter Tryz.func33,Tryz.ntmps33
 go_wp2_with fail
 refine cM Hr.o ?_
 rintro e1 w1 ⟨rfl,rfl⟩
 go_wp2
 go_ret
 exact⟨rfl,rfl⟩
theorem zqz(w:World)(rp:Nat)(S:ByteArray)(h:PBox w rp S 0)(hS:S.size<=4000000):Calls Tryz.prog 33 #[.pointer (some ⟨rp,0,none⟩)] w fun e w'=>HeadPost w rp S (headR S 3 0 ⟨0,0,0⟩) e w':=by
 obtain⟨c0,c1,c2,c3⟩:=h.cells
 have hS':¬ (4000000:Int) < S.size:=by omega
 have H:=zh h
 obtain⟨R,hR⟩:∃ R,R=headR S 3 0 ⟨0,0,0⟩:=⟨_,rfl⟩
 rw[<-hR]
 have HR:=zh hR
 clear h hR
 go_enter Tryz.func33,Tryz.ntmps33
 go_wp2_with fail
 go_loopg [13] 3 (fun g iv wr=>∃ i:Nat,iv=.int .i64 i/\i<=3/\g=3 - i/\i<=S.size/\Hid (headR S (3 - i) i ⟨0,0,0⟩=R/\PBox wr rp S i/\Kp [rp] w wr))
 case atStart=>exact⟨0,rfl,by omega,by omega,by omega,HR.o.symm,H.o,Kp.refl _ _⟩
 case round=>
  clear c0 c1 c2 c3
  obtain⟨i,rfl,hi1,rfl,hiS,HQ⟩:=hrel
  obtain⟨q1,q2,q3⟩:=HQ.o
  by_cases hi:i < 3
  ·have hi':(i:Int) < 3:=by omega
   rw[show 3 - i=(3 - (i+1))+1 by omega,headR,if_pos rfl] at q1
   unfold zmk at q1
   by_cases hgt:(S.size:Int) - i < (1:Nat)
   ·rw[if_pos (by omega:S.size<=i),zen S _ _ _ (by simp[Rs.fail])] at q1
    have Hc:Hid _:=zfo wr rp S i 1 q2 hS (by omega) hgt
    have hR2:R=⟨0,16,S.size⟩:=by
     rw[<-q1]
     obtain rfl:i=S.size:=by omega
     rfl
    subst hR2
    have Hq3:=zh q3
    clear q1 q2 q3
    go_wp2_with fail
    refine cM Hc.o ?_
    rintro e4 w4 ⟨rfl,p4,k4⟩
    have HK:Hid _:=Kp.trans Hq3.o k4
    clear p4 k4
    go_wp2
    go_ret
    exact⟨rfl,(fun hz=>by cases hz),HK.o⟩
   ·rw[if_neg (by omega:¬ S.size<=i)] at q1
    have Hc:Hid _:=zkz wr rp S i 1 q2 hS (by omega)
    have hT2:∀ h:0 < (S.extract i (i+1)).size,((S.extract i (i+1))[0]'h)=zbb S i:=fun h=>zms S i 1 0 h (by omega)
    have hsz:(S.extract i (i+1)).size=1:=by simp[ByteArray.size_extract];omega
    have Hq3:=zh q3
    have Hq1:=zh q1
    clear q1 q2 q3
    go_wp2_with fail
    refine cM Hc.o ?_
    rintro e4 w4 ⟨rfl,p4,k4⟩
    have HK:Hid (_/\_):=⟨p4,Kp.trans Hq3.o k4⟩
    clear p4 k4
    generalize S.extract i (i+1)=T at *
    have h0T:0 < T.size:=by omega
    have hb0:=hT2 h0T
    have hTi:(0:Int)<=0/\(0:Int) < T.size:=by omega
    have h012:i=0\/i=1\/i=2:=by omega
    clear hT2 hsz
    rcases h012 with rfl | rfl | rfl
    ·have Hq1b:Hid (if zbb S 0=77 then headR S 2 1 ⟨0,0,0⟩=R else R=⟨0,15,0⟩):=by
      unfold Hid
      have h:=Hq1.o
      have eh:zml 0=77:=rfl
      rw[eh] at h
      by_cases hb:zbb S 0=77
      ·rw[if_pos hb]
       rw[if_pos hb] at h
       exact h
      ·rw[if_neg hb]
       rw[if_neg hb,zen S _ _ _ (by simp[Rs.fail])] at h
       exact h.symm
     have HK2:=zh HK.o
     have hcmp:(((zbb S 0).toNat:Int) != ((({data:=#[77,76,49]} : ByteArray)[0]'(by decide)).toNat:Int))=!(decide (zbb S 0=77)):=by
      by_cases hb:zbb S 0=77
      ·rw[hb];rfl
      ·rw[decide_eq_false hb]
       have:¬ ((zbb S 0).toNat:Int)=((77:UInt8).toNat:Int):=fun e=>hb (UInt8.toNat_inj.1 (by omega))
       have e2:((({data:=#[77,76,49]} : ByteArray)[0]'(by decide)).toNat:Int)=((77:UInt8).toNat:Int):=rfl
       rw[e2]
       simpa using this 
     simp only[Int.natCast_zero] at *
     go_upto_region 9 with fail
     go_region
     all_goals clear hcmp
     by_cases hb:zbb S 0=77
     ·rw[decide_eq_true hb]
      have Hq2:=Hq1b.o
      rw[if_pos hb] at Hq2
      have Q:Hid (_/\_/\_):=⟨Hq2,PBox.kp HK2.o.1 (kr.drew) (by simp),Kp.drew HK2.o.2⟩
      clear hb hb0
      go_wp2
      go_roundg 2
      case measure=>omega
      case rel=>exact⟨1,rfl,by omega,rfl,by omega,Q⟩
     ·rw[decide_eq_false hb]
      have Hq2:=Hq1b.o
      rw[if_neg hb] at Hq2
      subst Hq2
      have Hr:Hid _:=zbo 15 0 w4.drew
      have HK3:Hid _:=Kp.drew HK2.o.2
      clear hb hb0
      go_wp2_with fail
      refine cM Hr.o ?_
      rintro e5 w5 ⟨rfl,rfl⟩
      go_wp2
      go_ret
      exact⟨rfl,(fun hz=>by cases hz),HK3.o⟩
    ·have Hq1b:Hid (if zbb S 1=76 then headR S 1 2 ⟨0,0,0⟩=R else R=⟨0,15,1⟩):=by
      unfold Hid
      have h:=Hq1.o
      have eh:zml 1=76:=rfl
      rw[eh] at h
      by_cases hb:zbb S 1=76
      ·rw[if_pos hb]
       rw[if_pos hb] at h
       exact h
      ·rw[if_neg hb]
       rw[if_neg hb,zen S _ _ _ (by simp[Rs.fail])] at h
       exact h.symm
     have HK2:=zh HK.o
     have hcmp:(((zbb S 1).toNat:Int) != ((({data:=#[77,76,49]} : ByteArray)[1]'(by decide)).toNat:Int))=!(decide (zbb S 1=76)):=by
      by_cases hb:zbb S 1=76
      ·rw[hb];rfl
      ·rw[decide_eq_false hb]
       have:¬ ((zbb S 1).toNat:Int)=((76:UInt8).toNat:Int):=fun e=>hb (UInt8.toNat_inj.1 (by omega))
       have e2:((({data:=#[77,76,49]} : ByteArray)[1]'(by decide)).toNat:Int)=((76:UInt8).toNat:Int):=rfl
       rw[e2]
       simpa using this 
     simp only[Int.natCast_one] at *
     go_upto_region 9 with fail
     go_region
     all_goals clear hcmp
     by_cases hb:zbb S 1=76
     ·rw[decide_eq_true hb]
      have Hq2:=Hq1b.o
      rw[if_pos hb] at Hq2
      have Q:Hid (_/\_/\_):=⟨Hq2,PBox.kp HK2.o.1 (kr.drew) (by simp),Kp.drew HK2.o.2⟩
      clear hb hb0
      go_wp2
      go_roundg 1
      case measure=>omega
      case rel=>exact⟨2,rfl,by omega,rfl,by omega,Q⟩
     ·rw[decide_eq_false hb]
      have Hq2:=Hq1b.o
      rw[if_neg hb] at Hq2
      subst Hq2
      have Hr:Hid _:=zbo 15 1 w4.drew
      have HK3:Hid _:=Kp.drew HK2.o.2
      clear hb hb0
      go_wp2_with fail
      refine cM Hr.o ?_
      rintro e5 w5 ⟨rfl,rfl⟩
      go_wp2
      go_ret
      exact⟨rfl,(fun hz=>by cases hz),HK3.o⟩
    ·have Hq1b:Hid (if zbb S 2=49 then headR S 0 3 ⟨0,0,0⟩=R else R=⟨0,15,2⟩):=by
      unfold Hid
      have h:=Hq1.o
      have eh:zml 2=49:=rfl
      rw[eh] at h
      by_cases hb:zbb S 2=49
      ·rw[if_pos hb]
       rw[if_pos hb] at h
       exact h
      ·rw[if_neg hb]
       rw[if_neg hb,zen S _ _ _ (by simp[Rs.fail])] at h
       exact h.symm
     have HK2:=zh HK.o
     have hcmp:(((zbb S 2).toNat:Int) != ((({data:=#[77,76,49]} : ByteArray)[2]'(by decide)).toNat:Int))=!(decide (zbb S 2=49)):=by
      by_cases hb:zbb S 2=49
      ·rw[hb];rfl
      ·rw[decide_eq_false hb]
       have:¬ ((zbb S 2).toNat:Int)=((49:UInt8).toNat:Int):=fun e=>hb (UInt8.toNat_inj.1 (by omega))
       have e2:((({data:=#[77,76,49]} : ByteArray)[2]'(by decide)).toNat:Int)=((49:UInt8).toNat:Int):=rfl
       rw[e2]
       simpa using this 
     simp only[Int.cast_ofNat_Int] at *
     go_upto_region 9 with fail
     go_region
     all_goals clear hcmp
     by_cases hb:zbb S 2=49
     ·rw[decide_eq_true hb]
      have Hq2:=Hq1b.o
      rw[if_pos hb] at Hq2
      have Q:Hid (_/\_/\_):=⟨Hq2,PBox.kp HK2.o.1 (kr.drew) (by simp),Kp.drew HK2.o.2⟩
      clear hb hb0
      go_wp2
      go_roundg 0
      case measure=>omega
      case rel=>exact⟨3,rfl,by omega,rfl,by omega,Q⟩
     ·rw[decide_eq_false hb]
      have Hq2:=Hq1b.o
      rw[if_neg hb] at Hq2
      subst Hq2
      have Hr:Hid _:=zbo 15 2 w4.drew
      have HK3:Hid _:=Kp.drew HK2.o.2
      clear hb hb0
      go_wp2_with fail
      refine cM Hr.o ?_
      rintro e5 w5 ⟨rfl,rfl⟩
      go_wp2
      go_ret
      exact⟨rfl,(fun hz=>by cases hz),HK3.o⟩
  ·have hi':¬ (i:Int) < 3:=by omega
   obtain rfl:i=3:=by omega
   have e:=q1
   subst e
   have Hq:Hid _:=And.intro q2 q3
   clear q1 q2 q3
   go_wp2
   go_ret
   exact⟨rfl,(fun _=>⟨Hq.o.1,hiS,rfl⟩),Hq.o.2⟩
theorem zqf{S:ByteArray}{n:Nat}{r:Rs}(h:¬ r.kind=0):Rs.num S n r=(0,r):=by unfold Rs.num;rw[if_neg h]
section
variable{S:ByteArray}
theorem zx7(hS:¬ 4000000 < S.size)(h:¬ (headR S 3 0 ⟨0,0,0⟩).kind=0):decR S=(⟨[],[]⟩,(headR S 3 0 ⟨0,0,0⟩).kind,(headR S 3 0 ⟨0,0,0⟩).fat):=by
 unfold decR
 rw[if_neg hS]
 generalize headR S 3 0 ⟨0,0,0⟩=r at *
 have e1:=zqf (S:=S) (n:=2) (r:=⟨3,r.kind,r.fat⟩) h
 unfold ziw ziv
 rw[e1]
 show zfy S [] (Rs.num S 2 ⟨3,r.kind,r.fat⟩)=_
 rw[e1]
 unfold zfy
 show zf4 ⟨[],[]⟩ (zee S ⟨3,r.kind,r.fat⟩)=_
 unfold zee
 rw[if_neg (fun hh=>h hh.1)]
 unfold zf4
 rw[if_neg h]
theorem zri(hS:¬ 4000000 < S.size)(h:(headR S 3 0 ⟨0,0,0⟩).kind=0)(hf:(headR S 3 0 ⟨0,0,0⟩).fat=0):decR S=zfy S (textsL S 3).1 ((textsL S 3).2.num S 2):=by
 unfold decR
 rw[if_neg hS]
 unfold ziw
 rw[h,hf]
 rfl
theorem zx6(hS:¬ 4000000 < S.size)(h:(headR S 3 0 ⟨0,0,0⟩).kind=0)(hf:(headR S 3 0 ⟨0,0,0⟩).fat=0)(h2:¬ (textsL S 3).2.kind=0):decR S=(⟨[],[]⟩,(textsL S 3).2.kind,(textsL S 3).2.fat):=by
 rw[zri hS h hf,zqf h2]
 unfold zfy
 show zf4 ⟨_,[]⟩ (zee S (textsL S 3).2)=_
 unfold zee
 rw[if_neg (fun hh=>h2 hh.1)]
 unfold zf4
 rw[if_neg h2]
theorem zg6{P:Nat}(hS:¬ 4000000 < S.size)(h:(headR S 3 0 ⟨0,0,0⟩).kind=0)(hf:(headR S 3 0 ⟨0,0,0⟩).fat=0)(h2:(textsL S 3).2=⟨P,0,0⟩):decR S=zf4 ⟨(textsL S 3).1,(funsL S P).1⟩ (zee S (funsL S P).2):=by
 rw[zri hS h hf,h2]
 rfl
theorem zx8{P:Nat}(hS:¬ 4000000 < S.size)(h:(headR S 3 0 ⟨0,0,0⟩).kind=0)(hf:(headR S 3 0 ⟨0,0,0⟩).fat=0)(h2:(textsL S 3).2=⟨P,0,0⟩)(h3:¬ (funsL S P).2.kind=0):decR S=(⟨[],[]⟩,(funsL S P).2.kind,(funsL S P).2.fat):=by
 rw[zg6 hS h hf h2]
 unfold zee
 rw[if_neg (fun hh=>h3 hh.1)]
 unfold zf4
 rw[if_neg h3]
theorem zx9{P P2:Nat}(hS:¬ 4000000 < S.size)(h:(headR S 3 0 ⟨0,0,0⟩).kind=0)(hf:(headR S 3 0 ⟨0,0,0⟩).fat=0)(h2:(textsL S 3).2=⟨P,0,0⟩)(h3:(funsL S P).2=⟨P2,0,0⟩)(h4:P2 < S.size):decR S=((⟨[],[]⟩,16,(P2:Int)):Cd×Int×Int):=by
 rw[zg6 hS h hf h2,h3]
 unfold zee
 rw[if_pos ⟨rfl,h4⟩]
 rfl
theorem zxw{P P2:Nat}(hS:¬ 4000000 < S.size)(h:(headR S 3 0 ⟨0,0,0⟩).kind=0)(hf:(headR S 3 0 ⟨0,0,0⟩).fat=0)(h2:(textsL S 3).2=⟨P,0,0⟩)(h3:(funsL S P).2=⟨P2,0,0⟩)(h4:¬ P2 < S.size):decR S=(⟨(textsL S 3).1,(funsL S P).1⟩,0,0):=by
 rw[zg6 hS h hf h2,h3]
 unfold zee
 rw[if_neg (fun hh=>h4 hh.2)]
 rfl
end
theorem zX.kpx{X:List Nat}{w w':World}{p:Option Addr}{ts:List ByteArray}(h:zX w p ts)(hk:Kp X w w')(hX:∀ b,p=some b->b.block∉X):zX w' p ts:=
 ⟨h.len,fun i hi=>by
  obtain⟨b,o,h1,h2,h3⟩:=h.get i hi
  exact⟨b,o,h1,lL h2 hk.size,hk.cell h3 (show b∉X from hX ⟨b,o,none⟩ h1)⟩⟩
section
variable{w w':World}{b:Nat}{p:Option Addr}{n cap:Nat}{p':Option Addr}{n' cap':Nat}
theorem CBox.kpx{X:List Nat}(h:CBox w b p n cap p' n' cap')(hk:Kp X w w')(hx:b∉X):CBox w' b p n cap p' n' cap':=(hk.block b (sz h) hx).trans h
theorem CBox.fz(h:CBox w b p n cap p' n' cap')(j:Nat):w.frozen? ⟨b,j,none⟩=false:=by
 unfold CBox at h
 simp[World.frozen?,h]
theorem CBox.put0(h:CBox w b p n cap p' n' cap')(q:Option Addr)(m c:Nat):CBox (w.setCell ⟨b,0,none⟩ (.slice q m c)) b q m c p' n' cap':=by
 unfold CBox at *
 simp[World.setCell,Array.getElem?_modify,h]
theorem CBox.put1(h:CBox w b p n cap p' n' cap')(q:Option Addr)(m c:Nat):CBox (w.setCell ⟨b,1,none⟩ (.slice q m c)) b p n cap q m c:=by
 unfold CBox at *
 simp[World.setCell,Array.getElem?_modify,h]
end
structure CW(w:World)(rp:Nat)(xp:Nat)(p:Option Addr)(n cap:Nat)(p':Option Addr)(n' cap':Nat)(u:World):Prop where
 xb:CBox u xp p n cap p' n' cap'
 kp:Kp [rp] w u
 xr:xp≠rp
 fr:w.heap.size<=xp
section
variable{w:World}{rp:Nat}{xp:Nat}{p:Option Addr}{n cap:Nat}{p':Option Addr}{n' cap':Nat}{u:World}
theorem CW.call(h:CW w rp xp p n cap p' n' cap' u){u':World}(hk:Kp [rp] u u'):CW w rp xp p n cap p' n' cap' u':=⟨h.xb.kpx hk (by simpa using h.xr),h.kp.trans hk,h.xr,h.fr⟩
theorem CW.put(h:CW w rp xp p n cap p' n' cap' u){u':World}{q:Option Addr}{m c:Nat}{q':Option Addr}{m' c':Nat}(hx:CBox u' xp q m c q' m' c')(hk:Kp [xp] u u'):CW w rp xp q m c q' m' c' u':=⟨hx,h.kp.then hk (by intro y hy;right;simp only[List.mem_singleton] at hy;rw[hy];exact h.fr),h.xr,h.fr⟩
theorem CW.p0(h:CW w rp xp p n cap p' n' cap' u)(q:Option Addr)(m c:Nat):CW w rp xp q m c p' n' cap' (u.setCell ⟨xp,0,none⟩ (.slice q m c)):=h.put (h.xb.put0 q m c) (Kp.setCell _ ⟨xp,0,none⟩ (by simp) _)
theorem CW.p1(h:CW w rp xp p n cap p' n' cap' u)(q:Option Addr)(m c:Nat):CW w rp xp p n cap q m c (u.setCell ⟨xp,1,none⟩ (.slice q m c)):=h.put (h.xb.put1 q m c) (Kp.setCell _ ⟨xp,1,none⟩ (by simp) _)
theorem CW.all(h:CW w rp xp p n cap p' n' cap' u):CW w rp xp p n cap p' n' cap' ((u.setCell ⟨xp,0,none⟩ (.slice p n cap)).setCell ⟨xp,1,none⟩ (.slice p' n' cap')):=(h.p0 p n cap).p1 p' n' cap'
end
inductive CodePost(w:World)(rp:Nat)(D:Cd×Int×Int)(e:Ending)(w':World):Prop
 | mk (p:Option Addr) (n cap:Nat) (p':Option Addr) (n' cap':Nat) (he:e=.returned (.tuple #[.agg #[.slice p n cap,.slice p' n' cap'],evR D.2.1 D.2.2])) (hr:D.2.1=0->n=D.1.texts.length/\n'=D.1.funs.length/\D.2.2=0/\∀ (X:List Nat) (W:World),Kp X w' W->(∀ y∈X,y < w.heap.size)->zX W p D.1.texts/\zF W p' D.1.funs/\∃ B,w.heap.size<=B/\zdm B W p' D.1.funs/\∀ a,p=some a->a.block < B) (hz:¬ D.2.1=0->D.1=⟨[],[]⟩) (hk:Kp [rp] w w'):CodePost w rp D e w'
theorem zrj(w:World)(rp:Nat)(S:ByteArray)(h:PBox w rp S 0)(hSh:ShIn w)(hrp:3≠rp):Calls Tryz.prog 23 #[.pointer (some ⟨rp,0,none⟩)] w fun e w'=>CodePost w rp (decR S) e w':=by
 have hC0:CW w rp w.heap.size none 0 0 none 0 0 (w.alloc (.cells #[.slice none 0 0,.slice none 0 0] 25)):=⟨(MapKept.heap_alloc w _).1,Kp.alloc _ _ _,by have:=h.lt;omega,Nat.le_refl _⟩
 have hP0:PBox (w.alloc (.cells #[.slice none 0 0,.slice none 0 0] 25)) rp S 0:=h.kp kA (by simp)
 have HC0:=zh hC0
 have HP0:=zh hP0
 have Hrl:=zh h.lt
 have HSh:Hid (∀ wx,Kp [rp] w wx->ShIn wx):=fun wx hx=>hSh.of_block (hx.block 3 hSh.lt (by simpa using hrp))
 obtain⟨R,hR⟩:∃ R,R=decR S:=⟨_,rfl⟩
 rw[<-hR]
 have HR:=zh hR
 clear hC0 hP0 hSh h hR
 go_enter Tryz.func23,Tryz.ntmps23
 go_upto_region 1 with fail
 generalize w.alloc _=w0 at *
 by_cases hbig:4000000 < S.size
 ·have hR2:R=(⟨[],[]⟩,1,0):=by rw[HR.o];unfold decR;rw[if_pos hbig]
  subst hR2
  have Hc:Hid _:=zq0 w0 rp S HP0.o hbig
  clear hbig
  go_wp2_with fail
  refine cM Hc.o ?_
  rintro e1 w1 ⟨rfl,rfl⟩
  obtain⟨x0,x1,xl⟩:=HC0.o.xb.cells
  have xf0:=HC0.o.xb.fz 0
  have xf1:=HC0.o.xb.fz 1
  have hfin:=HC0.o.all
  obtain⟨z0,z1,_⟩:=hfin.xb.cells
  have Hfin:=zh hfin.kp
  clear hfin
  go_wp2
  exact bodyPost_ret (v:=.tuple #[.agg #[.slice none 0 0,.slice none 0 0],.iface 84 (.agg #[.int .i64 1,.int .i64 0])]) (by simp[results,Tryz.results23,go_sem,z0,z1]) rfl ⟨none,0,0,none,0,0,rfl,(fun hz=>by cases hz),(fun _=>rfl),Hfin.o⟩
 have hS:S.size<=4000000:=by omega
 have Hc:Hid _:=zqz w0 rp S HP0.o hS
 have Hd1:Hid _:=zx7 (S:=S) hbig
 have Hd2:Hid _:=zx6 (S:=S) hbig
 have Hd3:Hid (∀ P,_):=fun P=>zx8 (S:=S) (P:=P) hbig
 have Hd4:Hid (∀ P P2,_):=fun P P2=>zx9 (S:=S) (P:=P) (P2:=P2) hbig
 have Hd5:Hid (∀ P P2,_):=fun P P2=>zxw (S:=S) (P:=P) (P2:=P2) hbig
 rw[<-HR.o] at Hd1 Hd2 Hd3 Hd4 Hd5
 generalize headR S 3 0 ⟨0,0,0⟩=r1 at *
 go_wp2_with fail
 refine cM Hc.o ?_
 rintro e1 w1 ⟨rfl,hq1,k1⟩
 have HC1:Hid _:=CW.call HC0.o k1
 have Hq1:=zh hq1
 clear hq1 k1
 obtain⟨x0,x1,xl⟩:=HC1.o.xb.cells
 have xf0:=HC1.o.xb.fz 0
 have xf1:=HC1.o.xb.fz 1
 by_cases hz1:¬ r1.kind=0
 ·have hR2:=Hd1.o hz1
  have Hev:Hid (evR r1.kind r1.fat=.iface 84 (.agg #[.int .i64 r1.kind,.int .i64 r1.fat])):=zcc hz1
  have Hz:=zh hz1
  have HR2:=zh hR2
  rw[Hev.o]
  clear hz1 hR2
  have hfin:=HC1.o.all
  obtain⟨z0,z1,_⟩:=hfin.xb.cells
  have Hfin:=zh hfin.kp
  clear hfin
  go_wp2
  exact bodyPost_ret (v:=.tuple #[.agg #[.slice none 0 0,.slice none 0 0],.iface 84 (.agg #[.int .i64 r1.kind,.int .i64 r1.fat])]) (by simp[results,Tryz.results23,go_sem,z0,z1]) rfl ⟨none,0,0,none,0,0,by rw[HR2.o,Hev.o],(fun hz=>by rw[HR2.o] at hz;exact absurd hz Hz.o),(fun _=>by rw[HR2.o]),Hfin.o⟩
 replace hz1:r1.kind=0:=Decidable.not_not.1 hz1
 obtain⟨p1,h3S,hf1⟩:=Hq1.o hz1
 have Hc:Hid _:=zkw w1 rp S 3 p1 hS (by omega)
 have Hz1:Hid (_/\_):=⟨hz1,hf1⟩
 rw[zcb hz1]
 clear p1 hz1 hf1
 generalize textsL S 3=T at *
 obtain⟨ts,r2⟩:=T
 simp only at Hc Hd2 Hd3 Hd4 Hd5
 go_wp2_with fail
 refine cM Hc.o ?_
 rintro e2 w2 ⟨q,m,cap,rfl,hq2,k2⟩
 have HC2:Hid _:=CW.call HC1.o k2
 have Hq2:=zh hq2
 have Hlt1:Hid (_/\_):=⟨xl,k2.size⟩
 clear hq2 k2
 clear x0 x1 xf0 xf1 xl
 obtain⟨x0,x1,xl⟩:=HC2.o.xb.cells
 have xf0:=HC2.o.xb.fz 0
 have xf1:=HC2.o.xb.fz 1
 have HC3:Hid _:=HC2.o.p0 q m cap
 have HK3:Hid (Kp [w.heap.size] w2 (w2.setCell ⟨w.heap.size,0,none⟩ (.slice q m cap))):=Kp.setCell _ ⟨w.heap.size,0,none⟩ (by simp) _
 go_upto_region 5 with fail
 clear x0 x1 xf0 xf1 xl
 generalize w2.setCell _ _=w3 at *
 obtain⟨x0,x1,xl⟩:=HC3.o.xb.cells
 have xf0:=HC3.o.xb.fz 0
 have xf1:=HC3.o.xb.fz 1
 by_cases hz2:¬ r2.kind=0
 ·have hR2:=Hd2.o Hz1.o.1 Hz1.o.2 hz2
  have Hev:Hid (evR r2.kind r2.fat=.iface 84 (.agg #[.int .i64 r2.kind,.int .i64 r2.fat])):=zcc hz2
  have Hz:=zh hz2
  have HR2:=zh hR2
  rw[Hev.o]
  clear hz2 hR2
  have hfin:=HC3.o.all
  obtain⟨z0,z1,_⟩:=hfin.xb.cells
  have Hfin:=zh hfin.kp
  clear hfin
  go_wp2
  exact bodyPost_ret (v:=.tuple #[.agg #[.slice q m cap,.slice none 0 0],.iface 84 (.agg #[.int .i64 r2.kind,.int .i64 r2.fat])]) (by simp[results,Tryz.results23,go_sem,z0,z1]) rfl ⟨q,m,cap,none,0,0,by rw[HR2.o,Hev.o],(fun hz=>by rw[HR2.o] at hz;exact absurd hz Hz.o),(fun _=>by rw[HR2.o]),Hfin.o⟩
 replace hz2:r2.kind=0:=Decidable.not_not.1 hz2
 obtain⟨rfl,hT2,hfr2,p2,hf2,hl2,hn2⟩:=Hq2.o hz2
 obtain⟨P,k2,f2⟩:=r2
 simp only at hz2 hf2 hl2 p2
 subst hz2
 subst hf2
 have p3:=p2.kp HK3.o (by simpa using Ne.symm HC2.o.xr)
 have HT3:Hid (zX w3 q ts/\∀ b,q=some b->w1.heap.size<=b.block/\b.block < w2.heap.size):=⟨hT2.kpx HK3.o (fun b hb=>by have h1:=(hfr2 b hb).1;have h2:=Hlt1.o.1;simp only[List.mem_singleton];omega),hfr2⟩
 have Hc:Hid _:=zn7 w3 rp S P p3 (HSh.o w3 HC3.o.kp) hrp hS (by omega)
 rw[zcb rfl]
 have hd3:=Hd3.o P Hz1.o.1 Hz1.o.2 rfl
 have hd4:=fun P2=>Hd4.o P P2 Hz1.o.1 Hz1.o.2 rfl
 have hd5:=fun P2=>Hd5.o P P2 Hz1.o.1 Hz1.o.2 rfl
 generalize funsL S P=U at *
 obtain⟨fs,r3⟩:=U
 simp only at hd3 hd4 hd5 Hc
 have Hd:Hid _:=And.intro hd3 (And.intro hd4 hd5)
 clear hT2 hfr2 p2 p3 hd3 hd4 hd5
 go_wp2_with fail
 refine cM Hc.o ?_
 rintro e4 w4 ⟨q',m',cap',rfl,hq4,k4⟩
 have HC4:Hid _:=CW.call HC3.o k4
 have HK4:=zh k4
 have Hq4:=zh hq4
 clear hq4 k4
 clear x0 x1 xf0 xf1 xl
 obtain⟨x0,x1,xl⟩:=HC4.o.xb.cells
 have xf0:=HC4.o.xb.fz 0
 have xf1:=HC4.o.xb.fz 1
 have HC5:Hid _:=HC4.o.p1 q' m' cap'
 have HK5:Hid (Kp [w.heap.size] w4 (w4.setCell ⟨w.heap.size,1,none⟩ (.slice q' m' cap'))):=Kp.setCell _ ⟨w.heap.size,1,none⟩ (by simp) _
 go_upto_region 8 with fail
 clear x0 x1 xf0 xf1 xl
 generalize w4.setCell _ _=w5 at *
 obtain⟨x0,x1,xl⟩:=HC5.o.xb.cells
 have xf0:=HC5.o.xb.fz 0
 have xf1:=HC5.o.xb.fz 1
 by_cases hz3:¬ r3.kind=0
 ·have hR2:=Hd.o.1 hz3
  have Hev:Hid (evR r3.kind r3.fat=.iface 84 (.agg #[.int .i64 r3.kind,.int .i64 r3.fat])):=zcc hz3
  have Hz:=zh hz3
  have HR2:=zh hR2
  rw[Hev.o]
  clear hz3 hR2
  have hfin:=HC5.o.all
  obtain⟨z0,z1,_⟩:=hfin.xb.cells
  have Hfin:=zh hfin.kp
  clear hfin
  go_wp2
  exact bodyPost_ret (v:=.tuple #[.agg #[.slice q ts.length cap,.slice q' m' cap'],.iface 84 (.agg #[.int .i64 r3.kind,.int .i64 r3.fat])]) (by simp[results,Tryz.results23,go_sem,z0,z1]) rfl ⟨q,ts.length,cap,q',m',cap',by rw[HR2.o,Hev.o],(fun hz=>by rw[HR2.o] at hz;exact absurd hz Hz.o),(fun _=>by rw[HR2.o]),Hfin.o⟩
 replace hz3:r3.kind=0:=Decidable.not_not.1 hz3
 obtain⟨rfl,hF4,p4,hf3,hl3,hn3⟩:=Hq4.o hz3
 obtain⟨P2,k3,f3⟩:=r3
 simp only at hz3 hf3 hl3 p4
 subst hz3
 subst hf3
 have p5:=p4.kp HK5.o (by simpa using Ne.symm HC4.o.xr)
 rw[zcb rfl]
 have Hl:Hid _:=zem w5 rp S P2 p5 (by omega) (by omega)
 have Hp5:=zh p5
 have HF4:=zh hF4
 clear p4 p5 hF4
 go_wp2_with fail
 refine cM Hl.o ?_
 rintro e6 w6 ⟨rfl,k6⟩
 have HC6:Hid _:=CW.call HC5.o (Kp.mono k6 (by simp))
 have HK6:=zh k6
 have hp6:=PBox.kp Hp5.o k6 (by simp)
 obtain⟨c0,c1,c2,c3⟩:=hp6.cells
 clear k6 hp6
 clear x0 x1 xf0 xf1 xl
 obtain⟨x0,x1,xl⟩:=HC6.o.xb.cells
 have xf0:=HC6.o.xb.fz 0
 have xf1:=HC6.o.xb.fz 1
 by_cases h4:P2 < S.size
 ·have hR2:=Hd.o.2.1 P2 rfl h4
  subst hR2
  have h4':(0:Int) < (S.size:Int) - P2:=by omega
  have Hr:Hid _:=zbo 16 P2 w6
  go_wp2_with fail
  refine cM Hr.o ?_
  rintro e7 w7 ⟨rfl,rfl⟩
  have hfin:=HC6.o.all
  obtain⟨z0,z1,_⟩:=hfin.xb.cells
  have Hfin:=zh hfin.kp
  clear hfin
  go_wp2
  exact bodyPost_ret (v:=.tuple #[.agg #[.slice q ts.length cap,.slice q' fs.length cap'],.iface 84 (.agg #[.int .i64 16,.int .i64 P2])]) (by simp[results,Tryz.results23,go_sem,z0,z1]) rfl ⟨q,ts.length,cap,q',fs.length,cap',rfl,(fun hz=>by cases hz),(fun _=>rfl),Hfin.o⟩
 ·have hR2:=Hd.o.2.2 P2 rfl h4
  subst hR2
  have h4':¬ (0:Int) < (S.size:Int) - P2:=by omega
  have hk7:Kp [w.heap.size] w6 ((w6.setCell ⟨w.heap.size,0,none⟩ (.slice q ts.length cap)).setCell ⟨w.heap.size,1,none⟩ (.slice q' fs.length cap')):=(Kp.setCell w6 ⟨w.heap.size,0,none⟩ (by simp) _).trans (Kp.setCell _ ⟨w.heap.size,1,none⟩ (by simp) _)
  have HK7:Hid _:=Kp.trans HK5.o (Kp.trans (Kp.mono HK6.o (by simp)) hk7)
  have Hres:Hid (∀ (X:List Nat) (W:World),Kp X ((w6.setCell ⟨w.heap.size,0,none⟩ (.slice q ts.length cap)).setCell ⟨w.heap.size,1,none⟩ (.slice q' fs.length cap')) W->(∀ y∈X,y < w.heap.size)->zX W q ts/\zF W q' fs/\∃ B,w.heap.size<=B/\zdm B W q' fs/\∀ a,q=some a->a.block < B):=fun X W hk hX=>by
   have hlt:=Hlt1.o
   have hsz3:=HC3.o.xb.cells.2.2
   have hs23:=HK3.o.size
   have k4W:Kp (w.heap.size :: X) w4 W:=(Kp.mono HK7.o (by simp)).trans (Kp.mono hk (by intro y hy;simp[hy]))
   have hF9:=HF4.o _ _ k4W (fun y hy=>by
    rcases List.mem_cons.1 hy with e | e
    ·rw[e];exact hsz3
    ·have:=hX _ e
     omega)
   refine⟨?_,hF9.1,w3.heap.size,by omega,hF9.2,fun a e=>by have:=(HT3.o.2 a e).2;omega⟩
   ·have t4:=HT3.o.1.kpx HK4.o (fun b hb=>by
     have h1:=(HT3.o.2 b hb).1
     have h5:=HC1.o.xr
     have h6:=HC1.o.kp.size
     simp only[List.mem_singleton]
     intro e
     have:=Hrl.o
     omega)
    refine t4.kpx k4W (fun b hb hy=>?_)
    have h1:=(HT3.o.2 b hb).1
    rcases List.mem_cons.1 hy with e | e
    ·omega
    ·have:=hX _ e
     omega
  clear hk7
  have hfin:=HC6.o.all
  obtain⟨z0,z1,_⟩:=hfin.xb.cells
  have Hfin:=zh hfin.kp
  clear hfin
  go_wp2
  exact bodyPost_ret (v:=.tuple #[.agg #[.slice q ts.length cap,.slice q' fs.length cap'],.nilIface]) (by simp[results,Tryz.results23,go_sem,z0,z1]) rfl ⟨q,ts.length,cap,q',fs.length,cap',rfl,(fun _=>⟨rfl,rfl,rfl,Hres.o⟩),(fun hz=>absurd rfl hz),Hfin.o⟩
end Go.Proofs.YtkcmachfagcnaaaGreatDoor.C12
