/- Part of Greater. -/
import Derived.Test.YtkcmachfagcnaaaGreatDoorB10
set_option maxHeartbeats 16000000
set_option maxRecDepth 100000
namespace Go.Proofs.YtkcmachfagcnaaaGreatDoor.C12
open Go.RowKit Go.Deep
theorem ok_a{k:Nat}{a b:Int}(hk:k < 26)(h:In.ok ⟨k,a,b⟩=true)(h0:k≠0)(h9:k≠9):0<=a:=by
 rw[In.ok_both ⟨k,a,b⟩ (zql hk),Bool.and_eq_true] at h
 have h1:=h.1
 rcases zdg k hk with⟨g1,g2⟩ | ⟨g1,g2⟩ | ⟨g1,g2⟩ | ⟨g1,g2⟩
 ·rw[g2,zdj [] 0 rfl] at h1
  have:a=0:=by simpa using h1
  omega
 ·rcases nats26 k hk with rfl | rfl | rfl | rfl | rfl | rfl | rfl | rfl | rfl | rfl | rfl | rfl | rfl | rfl | rfl | rfl | rfl | rfl | rfl | rfl | rfl | rfl | rfl | rfl | rfl | rfl <;> first | (exact absurd rfl h0) | (exact absurd rfl h9) | (exact absurd g1 (by decide))
 ·rw[g2,zhd [110] 0 rfl] at h1
  exact(zal h1).1
 ·rw[g2,zhd [110,110] 0 rfl] at h1
  exact(zal h1).1
theorem zp2(w:World)(p:Option Addr)(nt cap:Nat)(p':Option Addr)(cap':Nat)(fs:List Fn)(num:Nat)(hnum:num < fs.length)(k:Nat)(hk:k < 26)(a c:Int)(hx:In.ok ⟨k,a,c⟩=true)(hF:zF w p' fs)(hn:nt<=2 ^ 62/\fs.length<=2 ^ 62) :
  Calls Tryz.prog 44 #[.agg #[.slice p nt cap,.slice p' fs.length cap'],.int .i64 num,.agg #[.int .i64 k,.int .i64 a,.int .i64 c]] w fun e w'=>e=.returned (.int .i64 (zR nt fs.length (fs[num]'hnum) ⟨k,a,c⟩ (decide (num=0))))/\Below w.heap.size w w':=by
 have hb2:Below w.heap.size w ((w.alloc (.cells #[.slice p nt cap,.slice p' fs.length cap'] 25)).alloc (.cells #[.int .i64 k,.int .i64 a,.int .i64 c] 44)):=((Below.refl w.heap.size w).alloc (Nat.le_refl _) _).alloc (by simp) _
 have hC:CBox ((w.alloc (.cells #[.slice p nt cap,.slice p' fs.length cap'] 25)).alloc (.cells #[.int .i64 k,.int .i64 a,.int .i64 c] 44)) w.heap.size p nt cap p' fs.length cap':=(Below.heap_alloc _ _ _ (by simp)).trans (MapKept.heap_alloc w _).1
 have hI:IBox ((w.alloc (.cells #[.slice p nt cap,.slice p' fs.length cap'] 25)).alloc (.cells #[.int .i64 k,.int .i64 a,.int .i64 c] 44)) (w.heap.size+1) ⟨k,a,c⟩:=by
  have:=(MapKept.heap_alloc (w.alloc (.cells #[.slice p nt cap,.slice p' fs.length cap'] 25)) (.cells #[.int .i64 k,.int .i64 a,.int .i64 c] 44)).1
  rw[show(w.alloc (.cells #[.slice p nt cap,.slice p' fs.length cap'] 25)).heap.size=w.heap.size+1 by simp] at this
  exact this
 obtain⟨fb,fo,q,qc,rfl,hbw,hfc,hIn⟩:=(hF.below hb2).get num hnum
 have hnl:=hIn.len
 generalize fs[num]'hnum=f at *
 have Hb2:=zh hb2
 have HC:=zh hC
 have HI:=zh hI
 have hnum':(num:Int) < fs.length:=by omega
 have hcb:In.ok ⟨k,a,c⟩=true->k=23->0<=c:=fun h h23=>by
  subst h23
  exact(zal (In.ok_two h rfl).2).1
 have Hcb:Hid _:=hcb hx
 have Hbel:Hid (k≠0->k≠9->∀ (n:Int) (wx:World),Calls Tryz.prog 62 #[.int .i64 a,.int .i64 n] wx fun e w'=>e=.returned (.bool (decide (a < n)))/\w'=wx):=fun h0 h9 n wx=>by
  have h1:=ok_a hk hx h0 h9
  have h2:=zdi a n wx
  rw[decide_eq_true h1,Bool.true_and] at h2
  exact h2
 obtain⟨n1,n2⟩:=hn
 obtain⟨y0,y1,y2⟩:=hfc
 obtain⟨main,hmain⟩:∃ m,m=decide (num=0):=⟨_,rfl⟩
 rw[<-hmain]
 have Hmain:=zh hmain
 obtain⟨R,hR⟩:∃ R,R=zR nt fs.length f ⟨k,a,c⟩ main:=⟨_,rfl⟩
 rw[<-hR]
 have HR:=zh hR
 clear hb2 hC hI hIn hcb hx hF hmain hR
 go_enter Tryz.func44,Tryz.ntmps44
 go_upto_region 1 with fail
 generalize (w.alloc _).alloc _=w0 at *
 obtain⟨x0,x1,x2⟩:=CBox.cells HC.o
 have hb3:Below w0.heap.size w0 (w0.alloc (.cells #[.int .i64 f.free,.int .i64 f.sA,.slice q f.ins.length qc] 47)):=(Below.refl _ _).alloc (Nat.le_refl _) _
 have Hb3:=zh hb3
 have HFb:Hid (FBox _ w0.heap.size f q qc):=(MapKept.heap_alloc w0 _).1
 have hsz:w.heap.size+1 < w0.heap.size:=(IBox.cells HI.o).2.2.2
 clear hb3
 go_upto_region 2 with fail
 clear x0 x1 x2 y0 y1 y2 hbw
 generalize w0.alloc _=w1 at *
 have HB:Hid _:=Below.trans Hb2.o (Below.mono Hb3.o (Below.size Hb2.o))
 obtain⟨x0,x1,x2⟩:=CBox.cells (CBox.below HC.o Hb3.o)
 obtain⟨y0,y1,y2,y3⟩:=IBox.cells (IBox.kp HI.o (Kp.zB (X:=[]) Hb3.o) (by simp))
 obtain⟨z0,z1,z2,z3⟩:=FBox.cells HFb.o
 simp only at y0 y1 y2
 generalize w.heap.size+1=ib at *
 generalize w0.heap.size=fbx at *
 by_cases h18:k=18
 ·have hkv:(k:Int)=18:=by omega
  have b18:((k:Int) == 18)=true:=by simp;omega
  have Hba:Hid _:=Hbel.o (by omega) (by omega)
  clear h18
  by_cases ca:a < f.ins.length
  ·have cb:¬ (f.ins.length:Int)<=a:=by omega
   have hR2:R=0:=by rw[HR.o];unfold zR opOk;simp[hkv,cb]
   subst hR2
   clear hkv
   have Hc0:Hid _:=Hba.o (f.ins.length:Int) w1
   rw[decide_eq_true ca] at Hc0
   go_wp2_with fail
   refine cM Hc0.o ?_
   rintro e9 w9 ⟨rfl,rfl⟩
   go_wp2
   go_ret
   exact⟨rfl,HB.o⟩
  ·have cb:(f.ins.length:Int)<=a:=by omega
   have hR2:R=19:=by rw[HR.o];unfold zR opOk;simp[hkv,cb]
   subst hR2
   clear hkv
   have Hc0:Hid _:=Hba.o (f.ins.length:Int) w1
   rw[decide_eq_false ca] at Hc0
   go_wp2_with fail
   refine cM Hc0.o ?_
   rintro e9 w9 ⟨rfl,rfl⟩
   go_wp2
   go_ret
   exact⟨rfl,HB.o⟩
 by_cases h19:k=19
 ·have hkv:(k:Int)=19:=by omega
  have b18:((k:Int) == 18)=false:=by simp;omega
  have b19:((k:Int) == 19)=true:=by simp;omega
  have Hba:Hid _:=Hbel.o (by omega) (by omega)
  clear h18 h19
  by_cases ca:a < f.ins.length
  ·have cb:¬ (f.ins.length:Int)<=a:=by omega
   have hR2:R=0:=by rw[HR.o];unfold zR opOk;simp[hkv,cb]
   subst hR2
   clear hkv
   have Hc0:Hid _:=Hba.o (f.ins.length:Int) w1
   rw[decide_eq_true ca] at Hc0
   go_wp2_with fail
   refine cM Hc0.o ?_
   rintro e9 w9 ⟨rfl,rfl⟩
   go_wp2
   go_ret
   exact⟨rfl,HB.o⟩
  ·have cb:(f.ins.length:Int)<=a:=by omega
   have hR2:R=19:=by rw[HR.o];unfold zR opOk;simp[hkv,cb]
   subst hR2
   clear hkv
   have Hc0:Hid _:=Hba.o (f.ins.length:Int) w1
   rw[decide_eq_false ca] at Hc0
   go_wp2_with fail
   refine cM Hc0.o ?_
   rintro e9 w9 ⟨rfl,rfl⟩
   go_wp2
   go_ret
   exact⟨rfl,HB.o⟩
 by_cases h20:k=20
 ·have hkv:(k:Int)=20:=by omega
  have b18:((k:Int) == 18)=false:=by simp;omega
  have b19:((k:Int) == 19)=false:=by simp;omega
  have b20:((k:Int) == 20)=true:=by simp;omega
  have Hba:Hid _:=Hbel.o (by omega) (by omega)
  clear h18 h19 h20
  by_cases ca:a < f.ins.length
  ·have cb:¬ (f.ins.length:Int)<=a:=by omega
   have hR2:R=0:=by rw[HR.o];unfold zR opOk;simp[hkv,cb]
   subst hR2
   clear hkv
   have Hc0:Hid _:=Hba.o (f.ins.length:Int) w1
   rw[decide_eq_true ca] at Hc0
   go_wp2_with fail
   refine cM Hc0.o ?_
   rintro e9 w9 ⟨rfl,rfl⟩
   go_wp2
   go_ret
   exact⟨rfl,HB.o⟩
  ·have cb:(f.ins.length:Int)<=a:=by omega
   have hR2:R=19:=by rw[HR.o];unfold zR opOk;simp[hkv,cb]
   subst hR2
   clear hkv
   have Hc0:Hid _:=Hba.o (f.ins.length:Int) w1
   rw[decide_eq_false ca] at Hc0
   go_wp2_with fail
   refine cM Hc0.o ?_
   rintro e9 w9 ⟨rfl,rfl⟩
   go_wp2
   go_ret
   exact⟨rfl,HB.o⟩
 by_cases h1:k=1
 ·have hkv:(k:Int)=1:=by omega
  have b18:((k:Int) == 18)=false:=by simp;omega
  have b19:((k:Int) == 19)=false:=by simp;omega
  have b20:((k:Int) == 20)=false:=by simp;omega
  have b1:((k:Int) == 1)=true:=by simp;omega
  have Hba:Hid _:=Hbel.o (by omega) (by omega)
  clear h18 h19 h20 h1
  by_cases ca:a < nt
  ·have hR2:R=0:=by rw[HR.o];unfold zR opOk;simp[hkv,ca]
   subst hR2
   clear hkv
   have Hc0:Hid _:=Hba.o (nt:Int) w1
   rw[decide_eq_true ca] at Hc0
   go_wp2_with fail
   refine cM Hc0.o ?_
   rintro e9 w9 ⟨rfl,rfl⟩
   go_wp2
   go_ret
   exact⟨rfl,HB.o⟩
  ·have hR2:R=17:=by rw[HR.o];unfold zR opOk;simp[hkv,ca]
   subst hR2
   clear hkv
   have Hc0:Hid _:=Hba.o (nt:Int) w1
   rw[decide_eq_false ca] at Hc0
   go_wp2_with fail
   refine cM Hc0.o ?_
   rintro e9 w9 ⟨rfl,rfl⟩
   go_wp2
   go_ret
   exact⟨rfl,HB.o⟩
 by_cases h23:k=23
 ·have hkv:(k:Int)=23:=by omega
  have b18:((k:Int) == 18)=false:=by simp;omega
  have b19:((k:Int) == 19)=false:=by simp;omega
  have b20:((k:Int) == 20)=false:=by simp;omega
  have b1:((k:Int) == 1)=false:=by simp;omega
  have b23:((k:Int) == 23)=true:=by simp;omega
  have Hba:Hid _:=Hbel.o (by omega) (by omega)
  have hc0:=Hcb.o h23
  have Hbc:Hid (∀ (n:Int) (wx:World),Calls Tryz.prog 62 #[.int .i64 c,.int .i64 n] wx fun e w2=>e=.returned (.bool (decide (c < n)))/\w2=wx):=fun n wx=>by
   have h2:=zdi c n wx
   rw[decide_eq_true hc0,Bool.true_and] at h2
   exact h2
  clear h18 h19 h20 h1 h23
  by_cases ca:a < nt
  ·by_cases cc:c < 2
   ·have hR2:R=0:=by rw[HR.o];unfold zR opOk;simp[hkv,ca,cc]
    subst hR2
    clear hkv
    have Hc0:Hid _:=Hba.o (nt:Int) w1
    rw[decide_eq_true ca] at Hc0
    have Hc1:Hid _:=Hbc.o 2 w1
    rw[decide_eq_true cc] at Hc1
    go_wp2_with fail
    refine cM Hc0.o ?_
    rintro e9 w9 ⟨rfl,rfl⟩
    go_wp2_with fail
    refine cM Hc1.o ?_
    rintro e9 w9 ⟨rfl,rfl⟩
    go_wp2
    go_ret
    exact⟨rfl,HB.o⟩
   ·have hR2:R=17:=by rw[HR.o];unfold zR opOk;simp[hkv,ca,cc]
    subst hR2
    clear hkv
    have Hc0:Hid _:=Hba.o (nt:Int) w1
    rw[decide_eq_true ca] at Hc0
    have Hc1:Hid _:=Hbc.o 2 w1
    rw[decide_eq_false cc] at Hc1
    go_wp2_with fail
    refine cM Hc0.o ?_
    rintro e9 w9 ⟨rfl,rfl⟩
    go_wp2_with fail
    refine cM Hc1.o ?_
    rintro e9 w9 ⟨rfl,rfl⟩
    go_wp2
    go_ret
    exact⟨rfl,HB.o⟩
  ·have hR2:R=17:=by rw[HR.o];unfold zR opOk;simp[hkv,ca]
   subst hR2
   clear hkv
   have Hc0:Hid _:=Hba.o (nt:Int) w1
   rw[decide_eq_false ca] at Hc0
   go_wp2_with fail
   refine cM Hc0.o ?_
   rintro e9 w9 ⟨rfl,rfl⟩
   go_wp2
   go_ret
   exact⟨rfl,HB.o⟩
 by_cases h2:k=2
 ·have hkv:(k:Int)=2:=by omega
  have b18:((k:Int) == 18)=false:=by simp;omega
  have b19:((k:Int) == 19)=false:=by simp;omega
  have b20:((k:Int) == 20)=false:=by simp;omega
  have b1:((k:Int) == 1)=false:=by simp;omega
  have b23:((k:Int) == 23)=false:=by simp;omega
  have b2:((k:Int) == 2)=true:=by simp;omega
  have Hba:Hid _:=Hbel.o (by omega) (by omega)
  clear h18 h19 h20 h1 h23 h2
  by_cases ca:a < 12
  ·have hR2:R=0:=by rw[HR.o];unfold zR opOk;simp[hkv,ca]
   subst hR2
   clear hkv
   have Hc0:Hid _:=Hba.o (12:Int) w1
   rw[decide_eq_true ca] at Hc0
   go_wp2_with fail
   refine cM Hc0.o ?_
   rintro e9 w9 ⟨rfl,rfl⟩
   go_wp2
   go_ret
   exact⟨rfl,HB.o⟩
  ·have hR2:R=17:=by rw[HR.o];unfold zR opOk;simp[hkv,ca]
   subst hR2
   clear hkv
   have Hc0:Hid _:=Hba.o (12:Int) w1
   rw[decide_eq_false ca] at Hc0
   go_wp2_with fail
   refine cM Hc0.o ?_
   rintro e9 w9 ⟨rfl,rfl⟩
   go_wp2
   go_ret
   exact⟨rfl,HB.o⟩
 by_cases h12:k=12
 ·have hkv:(k:Int)=12:=by omega
  have b18:((k:Int) == 18)=false:=by simp;omega
  have b19:((k:Int) == 19)=false:=by simp;omega
  have b20:((k:Int) == 20)=false:=by simp;omega
  have b1:((k:Int) == 1)=false:=by simp;omega
  have b23:((k:Int) == 23)=false:=by simp;omega
  have b2:((k:Int) == 2)=false:=by simp;omega
  have b12:((k:Int) == 12)=true:=by simp;omega
  have Hba:Hid _:=Hbel.o (by omega) (by omega)
  clear h18 h19 h20 h1 h23 h2 h12
  by_cases ca:a < 15
  ·have hR2:R=0:=by rw[HR.o];unfold zR opOk;simp[hkv,ca]
   subst hR2
   clear hkv
   have Hc0:Hid _:=Hba.o (15:Int) w1
   rw[decide_eq_true ca] at Hc0
   go_wp2_with fail
   refine cM Hc0.o ?_
   rintro e9 w9 ⟨rfl,rfl⟩
   go_wp2
   go_ret
   exact⟨rfl,HB.o⟩
  ·have hR2:R=17:=by rw[HR.o];unfold zR opOk;simp[hkv,ca]
   subst hR2
   clear hkv
   have Hc0:Hid _:=Hba.o (15:Int) w1
   rw[decide_eq_false ca] at Hc0
   go_wp2_with fail
   refine cM Hc0.o ?_
   rintro e9 w9 ⟨rfl,rfl⟩
   go_wp2
   go_ret
   exact⟨rfl,HB.o⟩
 by_cases h24:k=24
 ·have hkv:(k:Int)=24:=by omega
  have b18:((k:Int) == 18)=false:=by simp;omega
  have b19:((k:Int) == 19)=false:=by simp;omega
  have b20:((k:Int) == 20)=false:=by simp;omega
  have b1:((k:Int) == 1)=false:=by simp;omega
  have b23:((k:Int) == 23)=false:=by simp;omega
  have b2:((k:Int) == 2)=false:=by simp;omega
  have b12:((k:Int) == 12)=false:=by simp;omega
  have b24:((k:Int) == 24)=true:=by simp;omega
  have Hba:Hid _:=Hbel.o (by omega) (by omega)
  clear h18 h19 h20 h1 h23 h2 h12 h24
  by_cases ca:a < 6
  ·have hR2:R=0:=by rw[HR.o];unfold zR opOk;simp[hkv,ca]
   subst hR2
   clear hkv
   have Hc0:Hid _:=Hba.o (6:Int) w1
   rw[decide_eq_true ca] at Hc0
   go_wp2_with fail
   refine cM Hc0.o ?_
   rintro e9 w9 ⟨rfl,rfl⟩
   go_wp2
   go_ret
   exact⟨rfl,HB.o⟩
  ·have hR2:R=17:=by rw[HR.o];unfold zR opOk;simp[hkv,ca]
   subst hR2
   clear hkv
   have Hc0:Hid _:=Hba.o (6:Int) w1
   rw[decide_eq_false ca] at Hc0
   go_wp2_with fail
   refine cM Hc0.o ?_
   rintro e9 w9 ⟨rfl,rfl⟩
   go_wp2
   go_ret
   exact⟨rfl,HB.o⟩
 by_cases h3:k=3
 ·have hkv:(k:Int)=3:=by omega
  have b18:((k:Int) == 18)=false:=by simp;omega
  have b19:((k:Int) == 19)=false:=by simp;omega
  have b20:((k:Int) == 20)=false:=by simp;omega
  have b1:((k:Int) == 1)=false:=by simp;omega
  have b23:((k:Int) == 23)=false:=by simp;omega
  have b2:((k:Int) == 2)=false:=by simp;omega
  have b12:((k:Int) == 12)=false:=by simp;omega
  have b24:((k:Int) == 24)=false:=by simp;omega
  have b3:((k:Int) == 3)=true:=by simp;omega
  clear h18 h19 h20 h1 h23 h2 h12 h24 h3
  by_cases cn:num=0
  ·have hm:main=true:=by rw[Hmain.o];exact decide_eq_true cn
   have cn2:¬ (0:Int) < num:=by omega
   have hR2:R=17:=by rw[HR.o];unfold zR opOk;simp[hkv,hm]
   subst hR2
   clear hkv
   clear hm
   have cn3:decide (0 < num)=false:=decide_eq_false (by omega)
   have cn4:decide ((0:Int) < num)=false:=decide_eq_false cn2
   clear cn
   go_wp2
   go_ret
   exact⟨rfl,HB.o⟩
  ·have hm:main=false:=by rw[Hmain.o];exact decide_eq_false cn
   have cn2:(0:Int) < num:=by omega
   have hR2:R=0:=by rw[HR.o];unfold zR opOk;simp[hkv,hm]
   subst hR2
   clear hkv
   clear hm
   have cn3:decide (0 < num)=true:=decide_eq_true (by omega)
   have cn4:decide ((0:Int) < num)=true:=decide_eq_true cn2
   clear cn
   go_wp2
   go_ret
   exact⟨rfl,HB.o⟩
 by_cases h4:k=4
 ·have hkv:(k:Int)=4:=by omega
  have b18:((k:Int) == 18)=false:=by simp;omega
  have b19:((k:Int) == 19)=false:=by simp;omega
  have b20:((k:Int) == 20)=false:=by simp;omega
  have b1:((k:Int) == 1)=false:=by simp;omega
  have b23:((k:Int) == 23)=false:=by simp;omega
  have b2:((k:Int) == 2)=false:=by simp;omega
  have b12:((k:Int) == 12)=false:=by simp;omega
  have b24:((k:Int) == 24)=false:=by simp;omega
  have b3:((k:Int) == 3)=false:=by simp;omega
  have b4:((k:Int) == 4)=true:=by simp;omega
  have Hba:Hid _:=Hbel.o (by omega) (by omega)
  clear h18 h19 h20 h1 h23 h2 h12 h24 h3 h4
  by_cases ca:a < f.free
  ·have hR2:R=0:=by rw[HR.o];unfold zR opOk;simp[hkv,ca]
   subst hR2
   clear hkv
   have Hc0:Hid _:=Hba.o (f.free:Int) w1
   rw[decide_eq_true ca] at Hc0
   go_wp2_with fail
   refine cM Hc0.o ?_
   rintro e9 w9 ⟨rfl,rfl⟩
   go_wp2
   go_ret
   exact⟨rfl,HB.o⟩
  ·have hR2:R=17:=by rw[HR.o];unfold zR opOk;simp[hkv,ca]
   subst hR2
   clear hkv
   have Hc0:Hid _:=Hba.o (f.free:Int) w1
   rw[decide_eq_false ca] at Hc0
   go_wp2_with fail
   refine cM Hc0.o ?_
   rintro e9 w9 ⟨rfl,rfl⟩
   go_wp2
   go_ret
   exact⟨rfl,HB.o⟩
 by_cases h5:k=5
 ·have hkv:(k:Int)=5:=by omega
  have b18:((k:Int) == 18)=false:=by simp;omega
  have b19:((k:Int) == 19)=false:=by simp;omega
  have b20:((k:Int) == 20)=false:=by simp;omega
  have b1:((k:Int) == 1)=false:=by simp;omega
  have b23:((k:Int) == 23)=false:=by simp;omega
  have b2:((k:Int) == 2)=false:=by simp;omega
  have b12:((k:Int) == 12)=false:=by simp;omega
  have b24:((k:Int) == 24)=false:=by simp;omega
  have b3:((k:Int) == 3)=false:=by simp;omega
  have b4:((k:Int) == 4)=false:=by simp;omega
  have b5:((k:Int) == 5)=true:=by simp;omega
  have Hba:Hid _:=Hbel.o (by omega) (by omega)
  clear h18 h19 h20 h1 h23 h2 h12 h24 h3 h4 h5
  by_cases ca:a < f.sA
  ·have hR2:R=0:=by rw[HR.o];unfold zR opOk;simp[hkv,ca]
   subst hR2
   clear hkv
   have Hc0:Hid _:=Hba.o (f.sA:Int) w1
   rw[decide_eq_true ca] at Hc0
   go_wp2_with fail
   refine cM Hc0.o ?_
   rintro e9 w9 ⟨rfl,rfl⟩
   go_wp2
   go_ret
   exact⟨rfl,HB.o⟩
  ·have hR2:R=17:=by rw[HR.o];unfold zR opOk;simp[hkv,ca]
   subst hR2
   clear hkv
   have Hc0:Hid _:=Hba.o (f.sA:Int) w1
   rw[decide_eq_false ca] at Hc0
   go_wp2_with fail
   refine cM Hc0.o ?_
   rintro e9 w9 ⟨rfl,rfl⟩
   go_wp2
   go_ret
   exact⟨rfl,HB.o⟩
 by_cases h6:k=6
 ·have hkv:(k:Int)=6:=by omega
  have b18:((k:Int) == 18)=false:=by simp;omega
  have b19:((k:Int) == 19)=false:=by simp;omega
  have b20:((k:Int) == 20)=false:=by simp;omega
  have b1:((k:Int) == 1)=false:=by simp;omega
  have b23:((k:Int) == 23)=false:=by simp;omega
  have b2:((k:Int) == 2)=false:=by simp;omega
  have b12:((k:Int) == 12)=false:=by simp;omega
  have b24:((k:Int) == 24)=false:=by simp;omega
  have b3:((k:Int) == 3)=false:=by simp;omega
  have b4:((k:Int) == 4)=false:=by simp;omega
  have b5:((k:Int) == 5)=false:=by simp;omega
  have b6:((k:Int) == 6)=true:=by simp;omega
  have Hba:Hid _:=Hbel.o (by omega) (by omega)
  clear h18 h19 h20 h1 h23 h2 h12 h24 h3 h4 h5 h6
  by_cases ca:a < f.sA
  ·have hR2:R=0:=by rw[HR.o];unfold zR opOk;simp[hkv,ca]
   subst hR2
   clear hkv
   have Hc0:Hid _:=Hba.o (f.sA:Int) w1
   rw[decide_eq_true ca] at Hc0
   go_wp2_with fail
   refine cM Hc0.o ?_
   rintro e9 w9 ⟨rfl,rfl⟩
   go_wp2
   go_ret
   exact⟨rfl,HB.o⟩
  ·have hR2:R=17:=by rw[HR.o];unfold zR opOk;simp[hkv,ca]
   subst hR2
   clear hkv
   have Hc0:Hid _:=Hba.o (f.sA:Int) w1
   rw[decide_eq_false ca] at Hc0
   go_wp2_with fail
   refine cM Hc0.o ?_
   rintro e9 w9 ⟨rfl,rfl⟩
   go_wp2
   go_ret
   exact⟨rfl,HB.o⟩
 by_cases h14:k=14
 ·have hkv:(k:Int)=14:=by omega
  have b18:((k:Int) == 18)=false:=by simp;omega
  have b19:((k:Int) == 19)=false:=by simp;omega
  have b20:((k:Int) == 20)=false:=by simp;omega
  have b1:((k:Int) == 1)=false:=by simp;omega
  have b23:((k:Int) == 23)=false:=by simp;omega
  have b2:((k:Int) == 2)=false:=by simp;omega
  have b12:((k:Int) == 12)=false:=by simp;omega
  have b24:((k:Int) == 24)=false:=by simp;omega
  have b3:((k:Int) == 3)=false:=by simp;omega
  have b4:((k:Int) == 4)=false:=by simp;omega
  have b5:((k:Int) == 5)=false:=by simp;omega
  have b6:((k:Int) == 6)=false:=by simp;omega
  have b14:((k:Int) == 14)=true:=by simp;omega
  have Hba:Hid _:=Hbel.o (by omega) (by omega)
  clear h18 h19 h20 h1 h23 h2 h12 h24 h3 h4 h5 h6 h14
  by_cases ca:a < f.sA
  ·have hR2:R=0:=by rw[HR.o];unfold zR opOk;simp[hkv,ca]
   subst hR2
   clear hkv
   have Hc0:Hid _:=Hba.o (f.sA:Int) w1
   rw[decide_eq_true ca] at Hc0
   go_wp2_with fail
   refine cM Hc0.o ?_
   rintro e9 w9 ⟨rfl,rfl⟩
   go_wp2
   go_ret
   exact⟨rfl,HB.o⟩
  ·have hR2:R=17:=by rw[HR.o];unfold zR opOk;simp[hkv,ca]
   subst hR2
   clear hkv
   have Hc0:Hid _:=Hba.o (f.sA:Int) w1
   rw[decide_eq_false ca] at Hc0
   go_wp2_with fail
   refine cM Hc0.o ?_
   rintro e9 w9 ⟨rfl,rfl⟩
   go_wp2
   go_ret
   exact⟨rfl,HB.o⟩
 by_cases h7:k=7
 ·have hkv:(k:Int)=7:=by omega
  have b18:((k:Int) == 18)=false:=by simp;omega
  have b19:((k:Int) == 19)=false:=by simp;omega
  have b20:((k:Int) == 20)=false:=by simp;omega
  have b1:((k:Int) == 1)=false:=by simp;omega
  have b23:((k:Int) == 23)=false:=by simp;omega
  have b2:((k:Int) == 2)=false:=by simp;omega
  have b12:((k:Int) == 12)=false:=by simp;omega
  have b24:((k:Int) == 24)=false:=by simp;omega
  have b3:((k:Int) == 3)=false:=by simp;omega
  have b4:((k:Int) == 4)=false:=by simp;omega
  have b5:((k:Int) == 5)=false:=by simp;omega
  have b6:((k:Int) == 6)=false:=by simp;omega
  have b14:((k:Int) == 14)=false:=by simp;omega
  have b7:((k:Int) == 7)=true:=by simp;omega
  clear h18 h19 h20 h1 h23 h2 h12 h24 h3 h4 h5 h6 h14 h7
  by_cases ca:0 < c
  ·have hR2:R=0:=by rw[HR.o];unfold zR opOk;simp[hkv,ca]
   subst hR2
   clear hkv
   have ct:decide (0 < c)=true:=decide_eq_true ca
   go_wp2
   go_ret
   exact⟨rfl,HB.o⟩
  ·have hR2:R=17:=by rw[HR.o];unfold zR opOk;simp[hkv,ca]
   subst hR2
   clear hkv
   have ct:decide (0 < c)=false:=decide_eq_false ca
   go_wp2
   go_ret
   exact⟨rfl,HB.o⟩
 by_cases h13:k=13
 ·have hkv:(k:Int)=13:=by omega
  have b18:((k:Int) == 18)=false:=by simp;omega
  have b19:((k:Int) == 19)=false:=by simp;omega
  have b20:((k:Int) == 20)=false:=by simp;omega
  have b1:((k:Int) == 1)=false:=by simp;omega
  have b23:((k:Int) == 23)=false:=by simp;omega
  have b2:((k:Int) == 2)=false:=by simp;omega
  have b12:((k:Int) == 12)=false:=by simp;omega
  have b24:((k:Int) == 24)=false:=by simp;omega
  have b3:((k:Int) == 3)=false:=by simp;omega
  have b4:((k:Int) == 4)=false:=by simp;omega
  have b5:((k:Int) == 5)=false:=by simp;omega
  have b6:((k:Int) == 6)=false:=by simp;omega
  have b14:((k:Int) == 14)=false:=by simp;omega
  have b7:((k:Int) == 7)=false:=by simp;omega
  have b13:((k:Int) == 13)=true:=by simp;omega
  clear h18 h19 h20 h1 h23 h2 h12 h24 h3 h4 h5 h6 h14 h7 h13
  by_cases ca:0 < a
  ·by_cases cc:a < fs.length
   ·have hR2:R=0:=by rw[HR.o];unfold zR opOk;simp[hkv,ca,cc]
    subst hR2
    clear hkv
    go_wp2
    go_ret
    exact⟨rfl,HB.o⟩
   ·have hR2:R=17:=by rw[HR.o];unfold zR opOk;simp[hkv,ca,cc]
    subst hR2
    clear hkv
    go_wp2
    go_ret
    exact⟨rfl,HB.o⟩
  ·have hR2:R=17:=by rw[HR.o];unfold zR opOk;simp[hkv,ca]
   subst hR2
   clear hkv
   go_wp2
   go_ret
   exact⟨rfl,HB.o⟩
 have b18:((k:Int) == 18)=false:=by simp;omega
 have b19:((k:Int) == 19)=false:=by simp;omega
 have b20:((k:Int) == 20)=false:=by simp;omega
 have b1:((k:Int) == 1)=false:=by simp;omega
 have b23:((k:Int) == 23)=false:=by simp;omega
 have b2:((k:Int) == 2)=false:=by simp;omega
 have b12:((k:Int) == 12)=false:=by simp;omega
 have b24:((k:Int) == 24)=false:=by simp;omega
 have b3:((k:Int) == 3)=false:=by simp;omega
 have b4:((k:Int) == 4)=false:=by simp;omega
 have b5:((k:Int) == 5)=false:=by simp;omega
 have b6:((k:Int) == 6)=false:=by simp;omega
 have b14:((k:Int) == 14)=false:=by simp;omega
 have b7:((k:Int) == 7)=false:=by simp;omega
 have b13:((k:Int) == 13)=false:=by simp;omega
 have hR2:R=0:=by
  rw[HR.o]
  unfold zR opOk
  simp[show ¬ (k:Int)=18 by omega,show ¬ (k:Int)=19 by omega,show ¬ (k:Int)=20 by omega,show ¬ (k:Int)=1 by omega,show ¬ (k:Int)=23 by omega,show ¬ (k:Int)=2 by omega,show ¬ (k:Int)=12 by omega,show ¬ (k:Int)=24 by omega,show ¬ (k:Int)=3 by omega,show ¬ (k:Int)=4 by omega,show ¬ (k:Int)=5 by omega,show ¬ (k:Int)=6 by omega,show ¬ (k:Int)=14 by omega,show ¬ (k:Int)=7 by omega,show ¬ (k:Int)=13 by omega]
 subst hR2
 have Hb26:Hid _:=zdi (k:Int) 26 w1
 rw[decide_eq_true (by omega:(0:Int)<=k),decide_eq_true (by omega:(k:Int) < 26)] at Hb26
 clear h18 h19 h20 h1 h23 h2 h12 h24 h3 h4 h5 h6 h14 h7 h13
 go_wp2_with fail
 refine cM Hb26.o ?_
 rintro e9 w9 ⟨rfl,rfl⟩
 go_wp2
 go_ret
 exact⟨rfl,HB.o⟩
theorem zoj(w:World)(p:Option Addr)(nt cap:Nat)(p':Option Addr)(cap':Nat)(fs:List Fn)(num:Nat)(hnum:num < fs.length)(hF:zF w p' fs)(hS:ShIn w)(hG:SgIn w)(hfs:∀ g∈fs,g.ok=true)(hn:nt<=65535/\fs.length<=65535) :
  Calls Tryz.prog 25 #[.agg #[.slice p nt cap,.slice p' fs.length cap'],.int .i64 num] w fun e w'=>e=.returned (.tuple #[.int .i64 (funP nt fs (fs[num]'hnum) (decide (num=0))).2,.int .i64 (funP nt fs (fs[num]'hnum) (decide (num=0))).1])/\Below w.heap.size w w':=by
 obtain⟨n1,n2⟩:=hn
 have hb1:Below w.heap.size w (w.alloc (.cells #[.slice p nt cap,.slice p' fs.length cap'] 25)):=(Below.refl w.heap.size w).alloc (Nat.le_refl _) _
 have hC:CBox (w.alloc (.cells #[.slice p nt cap,.slice p' fs.length cap'] 25)) w.heap.size p nt cap p' fs.length cap':=(MapKept.heap_alloc w _).1
 have hokf:=hfs _ (List.getElem_mem hnum)
 have hlen:(fs[num]'hnum).ins.length<=65535:=by
  have:=zal (Fn.ok_parts hokf).2.2.1
  omega
 have Hop:Hid (∀ (wx:World),Below w.heap.size w wx->∀ x:In,x∈(fs[num]'hnum).ins->Calls Tryz.prog 44 #[.agg #[.slice p nt cap,.slice p' fs.length cap'],.int .i64 num,.agg #[.int .i64 x.op,.int .i64 x.a,.int .i64 x.b]] wx fun e w'=>e=.returned (.int .i64 (zR nt fs.length (fs[num]'hnum) x (decide (num=0))))/\Below wx.heap.size wx w'):=fun wx hx x hxm=>by
  have hxk:=(Fn.ok_parts hokf).2.2.2 x hxm
  obtain⟨k,hk1,hk2⟩:=zc8 (In.ok_op hxk)
  obtain⟨op,a,c⟩:=x
  simp only at hk1
  subst hk1
  exact zp2 wx p nt cap p' cap' fs num hnum k hk2 a c hxk (hF.below hx) ⟨by omega,by omega⟩
 have Hfl:Hid (∀ (wx:World) (q:Option Addr) (qc:Nat),Below w.heap.size w wx->InsIn wx q (fs[num]'hnum).ins->(∀ x∈(fs[num]'hnum).ins,zR nt fs.length (fs[num]'hnum) x (decide (num=0))=0)->Calls Tryz.prog 45 #[.agg #[.slice p nt cap,.slice p' fs.length cap'],.slice q (fs[num]'hnum).ins.length qc] wx fun e w'=>FlowsPost wx (zFF fs (fs[num]'hnum).ins 0 (zbt (fs[num]'hnum).ins.length)) e w'):=fun wx q qc hx hi ho=>
  zq3 wx p nt cap p' cap' fs (fs[num]'hnum) (decide (num=0)) q qc hi (hF.below hx) (hS.below hx) (hG.below hx) hfs hokf ho
 obtain⟨fb,fo,q,qc,rfl,hbw,hfc,hIn⟩:=(hF.below hb1).get num hnum
 have hnum':(num:Int) < fs.length:=by omega
 obtain⟨R,hR⟩:∃ R,R=funP nt fs (fs[num]'hnum) (decide (num=0)):=⟨_,rfl⟩
 rw[<-hR]
 unfold funP at hR
 have HR:=zh hR
 generalize decide (num=0)=main at *
 generalize fs[num]'hnum=f at *
 obtain⟨y0,y1,y2⟩:=hfc
 have Hb1:=zh hb1
 have HC:=zh hC
 have HIn:=zh hIn
 clear hb1 hC hokf hF hS hG hfs hR hIn
 go_enter Tryz.func25,Tryz.ntmps25
 go_upto_region 1 with fail
 generalize w.alloc _=w0 at *
 obtain⟨x0,x1,x2⟩:=CBox.cells HC.o
 have hb2:Below w0.heap.size w0 (w0.alloc (.cells #[.int .i64 f.free,.int .i64 f.sA,.slice q f.ins.length qc] 47)):=(Below.refl _ _).alloc (Nat.le_refl _) _
 have Hb2:=zh hb2
 have HFb:Hid (FBox _ w0.heap.size f q qc):=(MapKept.heap_alloc w0 _).1
 clear hb2
 go_upto_region 2 with fail
 clear x0 x1 x2 y0 y1 y2 hbw
 generalize w0.alloc _=w1 at *
 have HB1:Hid _:=Below.trans Hb1.o (Below.mono Hb2.o (Below.size Hb1.o))
 have HC1:Hid _:=CBox.below HC.o Hb2.o
 have HI1:Hid _:=InsIn.below HIn.o Hb2.o
 generalize w0.heap.size=fbx at *
 obtain⟨z0,z1,z2,z3⟩:=FBox.cells HFb.o
 have hfl':(f.ins.length:Int)<=65535:=by omega
 go_wp2_with fail
 go_loopg [20] f.ins.length (fun g iv wr=>∃ i:Nat,iv=.int .i64 i/\i<=f.ins.length/\g=f.ins.length - i/\Hid (zOF nt fs.length f main (f.ins.drop i) i=zOF nt fs.length f main f.ins 0/\Below w1.heap.size w1 wr))
 case atStart=>exact⟨0,rfl,by omega,by omega,rfl,Below.refl _ _⟩
 case round=>
  clear z0 z1 z2 z3
  obtain⟨i,rfl,hi1,rfl,HQ⟩:=hrel
  obtain⟨r1,r2⟩:=HQ.o
  by_cases hi:i < f.ins.length
  ·have hi':(i:Int) < f.ins.length:=by omega
   obtain⟨bb,o,hq,hbw,y0,y1,y2⟩:=HI1.o.get i hi
   subst hq
   rw[zre nt fs.length f main f.ins i hi] at r1
   have hxm:=List.getElem_mem hi
   generalize f.ins[i]'hi=x at *
   have v0:=(r2.cell (p:=⟨bb,o+i * 3,none⟩) hbw).trans y0
   have v1:=(r2.cell (p:=⟨bb,o+i * 3+1,none⟩) hbw).trans y1
   have v2:=(r2.cell (p:=⟨bb,o+i * 3+2,none⟩) hbw).trans y2
   have hbr:=lL hbw r2.size
   have hxb:IBox (wr.alloc (.cells #[.int .i64 x.op,.int .i64 x.a,.int .i64 x.b] 44)) wr.heap.size x:=(MapKept.heap_alloc wr _).1
   have hk4:Below w1.heap.size w1 (wr.alloc (.cells #[.int .i64 x.op,.int .i64 x.a,.int .i64 x.b] 44)):=r2.alloc r2.size _
   have Hc:Hid _:=Hop.o _ (Below.then HB1.o hk4 (Nat.le_refl _)) x hxm
   have Hxb:=zh hxb
   have Hk4:=zh hk4
   have Hr1:=zh r1
   clear r1 r2 y0 y1 y2 hbw hxb hk4 hxm
   go_upto_region 5 with fail
   clear v0 v1 v2 hbr
   generalize wr.alloc _=w4 at *
   obtain⟨x0,x1,x2,x3⟩:=IBox.cells Hxb.o
   obtain⟨c0,c1,c2⟩:=CBox.cells (CBox.below HC1.o Hk4.o)
   go_wp2_with fail
   refine cM Hc.o ?_
   rintro e5 w5 ⟨rfl,hb5⟩
   have Hk5:Hid _:=Below.then Hk4.o hb5 (Nat.le_refl _)
   clear x0 x1 x2 x3 c0 c1 c2 hb5
   generalize zR nt fs.length f x main=ek at *
   by_cases hek:ek=0
   ·have hek':(ek != 0)=false:=by simpa using hek
    have Q:Hid (zOF nt fs.length f main (f.ins.drop (i+1)) (i+1)=zOF nt fs.length f main f.ins 0/\_):=⟨by have:=Hr1.o;rw[if_pos hek] at this;exact this,Hk5.o⟩
    clear hek
    go_wp2
    go_roundg (f.ins.length - (i+1))
    case measure=>omega
    case rel=>exact⟨i+1,by first | rfl | (congr 1;omega) | go_num,by omega,rfl,Q⟩
   ·have hek':(ek != 0)=true:=by simpa using hek
    have hR2:R=(ek,(i:Int)):=by
     have:=Hr1.o
     rw[if_neg hek] at this
     rw[HR.o,<-this]
    subst hR2
    have HB5:Hid _:=Below.trans HB1.o (Below.mono Hk5.o (Below.size HB1.o))
    clear hek
    go_wp2
    exact bodyPost_ret (v:=.tuple #[.int .i64 i,.int .i64 ek]) (by simp[results,Tryz.results25,go_sem]) rfl ⟨rfl,HB5.o⟩
  ·have hi':¬ (i:Int) < f.ins.length:=by omega
   rw[zbk f.ins i hi,zOF] at r1
   have hR2:R=zFF fs f.ins 0 (zbt f.ins.length):=by rw[HR.o,<-r1]
   have hall:=zdr nt fs.length f main f.ins 0 r1.symm
   obtain⟨z0,z1,z2,z3⟩:=FBox.cells (FBox.below HFb.o r2)
   obtain⟨c0,c1,c2⟩:=CBox.cells (CBox.below HC1.o r2)
   have hbr:=Below.trans HB1.o (Below.mono r2 (Below.size HB1.o))
   have Hc:Hid _:=Hfl.o wr q qc hbr (InsIn.below HI1.o r2) hall
   rw[<-hR2] at Hc
   have Hbr:=zh hbr
   clear r1 r2 hall hbr hR2
   go_wp2_with fail
   refine cM Hc.o ?_
   rintro e6 w6 ⟨pl,ok,rfl,h1,h2,hb6⟩
   have HB6:Hid _:=Below.then Hbr.o hb6 (Nat.le_refl _)
   clear z0 z1 z2 z3 c0 c1 c2 hb6
   cases ok
   ·have hR3:=h2 rfl
    subst hR3
    clear h1 h2
    go_wp2
    exact bodyPost_ret (v:=.tuple #[.int .i64 pl,.int .i64 20]) (by simp[results,Tryz.results25,go_sem]) rfl ⟨rfl,HB6.o⟩
   ·have hR3:=h1 rfl
    subst hR3
    clear h1 h2
    go_wp2
    exact bodyPost_ret (v:=.tuple #[.int .i64 0,.int .i64 0]) (by simp[results,Tryz.results25,go_sem]) rfl ⟨rfl,HB6.o⟩
end Go.Proofs.YtkcmachfagcnaaaGreatDoor.C12
