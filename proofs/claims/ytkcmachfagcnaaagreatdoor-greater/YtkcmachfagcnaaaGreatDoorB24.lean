/- Part of Greater. -/
import Derived.Test.YtkcmachfagcnaaaGreatDoorB23
namespace Go.Proofs.YtkcmachfagcnaaaGreatDoor
open Go.RowKit Go.Deep Go.IntWalk
open C12 (Cd Fn In zT)
theorem zei:∀ l:List Cal,(zY l).length=2 * l.length
 | []=>rfl
 | c :: l=>by
  rw[zY,List.length_cons,List.length_cons,zei l,List.length_cons]
  omega
theorem zd6:∀ (l:List Cal) (i:Nat) (hi:i < l.length),(zY l)[2 * i]? = some (l[i]'hi).fn/\(zY l)[2 * i+1]? = some (l[i]'hi).arg
 | c :: l,0,_=>⟨rfl,rfl⟩
 | c :: l,i+1,hi=>by
  have h:=zd6 l i (by simpa using hi)
  rw[show 2 * (i+1)=2 * i+1+1 by omega,zY,List.getElem?_cons_succ,List.getElem?_cons_succ,List.getElem?_cons_succ,List.getElem?_cons_succ]
  exact h
theorem zdc(s:St):s.roots.length=2 * s.cA.length+(s.sA.length+s.vA.length):=by
 unfold St.roots
 rw[lA,zei,lA]
def putC:List Cal->List Cl->List Cal
 | c :: l,a :: b :: r=>{c with fn:=a,arg:=b} :: putC l r
 | l,_=>l
theorem ze8:∀ (l:List Cal) (r:List Cl),(putC l r).length=l.length
 | [],r=>by cases r <;> rfl
 | c :: l,[]=>rfl
 | c :: l,[a]=>rfl
 | c :: l,a :: b :: r=>by rw[putC,List.length_cons,ze8 l r,List.length_cons]
theorem zla:∀ (l:List Cal) (r:List Cl),r.length=2 * l.length->∀ i (hi:i < l.length),(putC l r)[i]? = some {(l[i]'hi) with fn:=(r[2 * i]?).getD default,arg:=(r[2 * i+1]?).getD default}
 | c :: l,a :: b :: r,_,0,_=>rfl
 | c :: l,a :: b :: r,h,i+1,hi=>by
  rw[putC,List.getElem?_cons_succ,zla l r (by simp at h;omega) i (by simpa using hi),show 2 * (i+1)=2 * i+1+1 by omega,List.getElem?_cons_succ,List.getElem?_cons_succ,List.getElem?_cons_succ,List.getElem?_cons_succ]
  rfl
theorem zhq:∀ (l:List Cal) (r:List Cl),r.length=2 * l.length->zY (putC l r)=r
 | [],[],_=>rfl
 | c :: l,a :: b :: r,h=>by
  rw[putC,zY,zhq l r (by simp at h;omega)]
def St.putR(s:St)(rs:List Cl):St:={cA:=putC s.cA (rs.take (2 * s.cA.length)),sA:=(rs.drop (2 * s.cA.length)).take s.sA.length,vA:=rs.drop (2 * s.cA.length+s.sA.length),tA:=s.tA}
theorem znp(s:St)(rs:List Cl)(h:rs.length=s.roots.length):(s.putR rs).roots=rs:=by
 rw[zdc] at h
 unfold St.roots St.putR
 simp only
 rw[zhq _ _ (by simp;omega),<-List.drop_drop,List.take_append_drop,List.take_append_drop]
theorem zfr(s:St)(rs:List Cl):(s.putR rs).cA.length=s.cA.length:=ze8 _ _
theorem zno(s:St)(rs:List Cl)(h:rs.length=s.roots.length):(s.putR rs).sA.length=s.sA.length:=by
 rw[zdc] at h
 simp[St.putR]
 omega
theorem zk9(s:St)(rs:List Cl)(h:rs.length=s.roots.length):(s.putR rs).vA.length=s.vA.length:=by
 rw[zdc] at h
 simp[St.putR]
 omega
theorem zai(gc nc gs ns gv nv:Nat){i:Nat}(hi:i < nc):(zbu gc nc gs ns gv nv)[2 * i]? = some ⟨gc,i * 9+1⟩/\(zbu gc nc gs ns gv nv)[2 * i+1]? = some ⟨gc,i * 9+3⟩:=by
 have hl:=zbq gc nc
 unfold zbu
 rw[List.getElem?_append_left (by omega),List.getElem?_append_left (by omega)]
 exact zha gc nc i hi
theorem zaz(gc nc gs ns gv nv:Nat){i:Nat}(hi:i < ns):(zbu gc nc gs ns gv nv)[2 * nc+i]? = some ⟨gs,i * 2⟩:=by
 have hl:=zbq gc nc
 have hl2:=zcw gs ns
 unfold zbu
 rw[List.getElem?_append_right (by omega),hl,Nat.add_sub_cancel_left,List.getElem?_append_left (by omega),ze6 gs ns i hi]
theorem zaw(gc nc gs ns gv nv:Nat){i:Nat}(hi:i < nv):(zbu gc nc gs ns gv nv)[2 * nc+ns+i]? = some ⟨gv,i * 2⟩:=by
 have hl:=zbq gc nc
 have hl2:=zcw gs ns
 unfold zbu
 rw[List.getElem?_append_right (by omega),hl,show 2 * nc+ns+i - 2 * nc=ns+i by omega,List.getElem?_append_right (by omega),hl2,Nat.add_sub_cancel_left,ze6 gv nv i hi]
theorem zci{nc ns nv k:Nat}(h:k < 2 * nc+(ns+nv)):(∃ i,i < nc/\k=2 * i)\/(∃ i,i < nc/\k=2 * i+1)\/(∃ i,i < ns/\k=2 * nc+i)\/(∃ i,i < nv/\k=2 * nc+ns+i):=by
 by_cases h1:k < 2 * nc
 ·by_cases h2:k % 2=0
  ·exact Or.inl ⟨k / 2,by omega,by omega⟩
  ·exact Or.inr (Or.inl ⟨k / 2,by omega,by omega⟩)
 ·by_cases h2:k < 2 * nc+ns
  ·exact Or.inr (Or.inr (Or.inl ⟨k - 2 * nc,by omega,by omega⟩))
  ·exact Or.inr (Or.inr (Or.inr ⟨k - 2 * nc - ns,by omega,by omega⟩))
def blkOf(v:Value):Nat:=(v.ownBlock).getD 0
theorem zau{w:World}{base:Nat}{e:TypeId}{size:Nat}{v:Value}{n:Nat}{xs:List Value}(h:w.ownsRow base e size v n xs)(hn:0 < n):∃ cap cur,v=.slice (some ⟨blkOf v,0,none⟩) n cap/\v.ownBlock=some (blkOf v)/\w.heap[blkOf v]? = some (.cells cur e)/\cur.size=cap * size/\n<=cap/\cap<=maxLen/\base<=blkOf v/\∀ j,j < n * size->cur[j]? = xs[j]?:=by
 rcases zbg h with⟨rfl,rfl⟩ | ⟨g,cap,cur,rfl,h2,h3,h4,h5,h6,h7⟩
 ·omega
 ·exact⟨cap,cur,rfl,rfl,h3,h6,h4,h5,h2,h7⟩
theorem zcn{w:World}{b:Nat}{cur:Array Value}{t:TypeId}(h:w.heap[b]? = some (.cells cur t))(o:Nat):w.cell? ⟨b,o,none⟩=cur[o]?:=by
 simp only[World.cell?,h]
 rfl
section
variable{X:Fx}{w:World}{g:Pg}{m:AM}{R:Int->Int->Prop}
theorem J.cellC(h:J X w g m R){i:Nat}(hi:i < g.s.cA.length)(j:Nat)(hj:j < 9):w.cell? ⟨blkOf g.vc,i * 9+j,none⟩=(calV (g.s.cA[i]'hi))[j]?:=by
 obtain⟨cap,cur,hv,_,hh,_,_,_,_,hx⟩:=zau h.oc (by omega)
 rw[zcn hh,hx _ (by omega)]
 exact zcr calV 9 zcu g.s.cA i hi j hj
theorem zl9{w:World}{base:Nat}{v:Value}{l:List Cl}(h:OwnC w base v l){i:Nat}(hi:i < l.length):w.cell? ⟨blkOf v,i * 2,none⟩=some (.bool (l[i]'hi).p)/\w.cell? ⟨blkOf v,i * 2+1,none⟩=some (.int .i64 (l[i]'hi).n):=by
 obtain⟨cap,cur,hv,_,hh,_,_,_,_,hx⟩:=zau h (by omega)
 have x0:=hx (i * 2+0) (by omega)
 have x1:=hx (i * 2+1) (by omega)
 rw[zbh l i hi 0 (by omega)] at x0
 rw[zbh l i hi 1 (by omega)] at x1
 rw[zcn hh,zcn hh]
 exact⟨x0,x1⟩
def J.spots(g:Pg):List Sp:=zbu (blkOf g.vc) g.s.cA.length (blkOf g.vs) g.s.sA.length (blkOf g.vv) g.s.vA.length
theorem zjb(g:Pg):(J.spots g).length=g.s.roots.length:=by rw[J.spots,zb8,zdc]
theorem J.spotMem(h:J X w g m R){b:Nat}(hb:b∈(J.spots g).map Sp.b):(0 < g.s.cA.length/\b=blkOf g.vc/\g.vc.ownBlock=some b)\/(0 < g.s.sA.length/\b=blkOf g.vs/\g.vs.ownBlock=some b)\/(0 < g.s.vA.length/\b=blkOf g.vv/\g.vv.ownBlock=some b):=by
 obtain⟨s,hs,rfl⟩:=List.mem_map.1 hb
 obtain⟨k,hk⟩:=List.mem_iff_getElem?.1 hs
 have hkl:k < 2 * g.s.cA.length+(g.s.sA.length+g.s.vA.length):=by
  have:=(List.getElem?_eq_some_iff.1 hk).1
  rw[J.spots,zb8] at this
  exact this
 rw[J.spots] at hk
 rcases zci hkl with⟨i,hi,rfl⟩ | ⟨i,hi,rfl⟩ | ⟨i,hi,rfl⟩ | ⟨i,hi,rfl⟩
 ·rw[(zai _ _ _ _ _ _ hi).1] at hk
  cases hk
  obtain⟨_,_,_,e,_⟩:=zau h.oc (show 0 < g.s.cA.length by omega)
  exact Or.inl ⟨by omega,rfl,e⟩
 ·rw[(zai _ _ _ _ _ _ hi).2] at hk
  cases hk
  obtain⟨_,_,_,e,_⟩:=zau h.oc (show 0 < g.s.cA.length by omega)
  exact Or.inl ⟨by omega,rfl,e⟩
 ·rw[zaz _ _ _ _ _ _ hi] at hk
  cases hk
  obtain⟨_,_,_,e,_⟩:=zau h.os (show 0 < g.s.sA.length by omega)
  exact Or.inr (Or.inl ⟨by omega,rfl,e⟩)
 ·rw[zaw _ _ _ _ _ _ hi] at hk
  cases hk
  obtain⟨_,_,_,e,_⟩:=zau h.ov (show 0 < g.s.vA.length by omega)
  exact Or.inr (Or.inr ⟨by omega,rfl,e⟩)
theorem zil{α:Type} [Inhabited α]{l:List α}{i:Nat}{x:α}(h:l[i]? = some x)(hi:i < l.length):l[i]'hi=x:=by
 rw[gE hi] at h
 exact Option.some.inj h
theorem J.rw(h:J X w g m R):RW w (J.spots g) w g.s.roots:=by
 have hl:=zjb g
 refine⟨hl.symm,fun k hk hc=>?_,fun k j hk hj hne hbe=>?_,fun s hs=>?_,fun x cur t hx hc=>⟨cur,hc,rfl,fun _ _=>rfl⟩⟩
 ·have hkl:k < 2 * g.s.cA.length+(g.s.sA.length+g.s.vA.length):=by
   rw[J.spots,zb8] at hk
   exact hk
  have e1:(J.spots g)[k]'hk=((J.spots g)[k]?).getD ⟨0,0⟩:=by rw[gE hk];rfl
  have e2:g.s.roots[k]'hc=(g.s.roots[k]?).getD default:=by rw[gE hc];rfl
  rw[e1,e2]
  have hcl:=zei g.s.cA
  unfold J.spots St.roots
  rcases zci hkl with⟨i,hi,rfl⟩ | ⟨i,hi,rfl⟩ | ⟨i,hi,rfl⟩ | ⟨i,hi,rfl⟩
  ·rw[(zai _ _ _ _ _ _ hi).1,List.getElem?_append_left (by omega),(zd6 _ i hi).1]
   exact⟨h.cellC hi 1 (by omega),h.cellC hi 2 (by omega)⟩
  ·rw[(zai _ _ _ _ _ _ hi).2,List.getElem?_append_left (by omega),(zd6 _ i hi).2]
   exact⟨h.cellC hi 3 (by omega),h.cellC hi 4 (by omega)⟩
  ·rw[zaz _ _ _ _ _ _ hi,List.getElem?_append_right (by omega),hcl,Nat.add_sub_cancel_left,List.getElem?_append_left hi,gE hi]
   exact zl9 h.os hi
  ·rw[zaw _ _ _ _ _ _ hi,List.getElem?_append_right (by omega),hcl,show 2 * g.s.cA.length+g.s.sA.length+i - 2 * g.s.cA.length=g.s.sA.length+i by omega,List.getElem?_append_right (by omega),Nat.add_sub_cancel_left,gE hi]
   exact zl9 h.ov hi
 ·have hkl:k < 2 * g.s.cA.length+(g.s.sA.length+g.s.vA.length):=by
   rw[J.spots,zb8] at hk
   exact hk
  have hjl:j < 2 * g.s.cA.length+(g.s.sA.length+g.s.vA.length):=by
   rw[J.spots,zb8] at hj
   exact hj
  have ne1:∀ {a b c d},a < g.s.cA.length->b < g.s.sA.length+g.s.vA.length->c=blkOf g.vc->(0 < g.s.sA.length/\d=blkOf g.vs\/0 < g.s.vA.length/\d=blkOf g.vv)->c≠d:=fun {a b c d} ha _ hc hd e=>by
   obtain⟨_,_,_,e1,_⟩:=zau h.oc (show 0 < g.s.cA.length by omega)
   obtain⟨_,cu,hcu⟩:=h.tc _ e1
   rcases hd with⟨hp,hd⟩ | ⟨hp,hd⟩
   ·obtain⟨_,_,_,e2,_⟩:=zau h.os hp
    obtain⟨_,cu2,hcu2⟩:=h.ts _ e2
    rw[<-hc,e,hd,hcu2] at hcu
    cases hcu
   ·obtain⟨_,_,_,e2,_⟩:=zau h.ov hp
    obtain⟨_,cu2,hcu2⟩:=h.tv _ e2
    rw[<-hc,e,hd,hcu2] at hcu
    cases hcu
  have ne2:0 < g.s.sA.length->0 < g.s.vA.length->blkOf g.vs≠blkOf g.vv:=fun h1 h2 e=>by
   obtain⟨_,_,_,e1,_⟩:=zau h.os h1
   obtain⟨_,_,_,e2,_⟩:=zau h.ov h2
   exact h.dj _ e1 (by rw[e];exact e2)
  have g1:∀ {k:Nat} (hk:k < (J.spots g).length) (s:Sp),(J.spots g)[k]? = some s->(J.spots g)[k]'hk=s:=fun hk s e=>by
   rw[gE hk] at e
   exact Option.some.inj e
  unfold J.spots at g1 hbe ⊢
  rcases zci hkl with⟨i,hi,rfl⟩ | ⟨i,hi,rfl⟩ | ⟨i,hi,rfl⟩ | ⟨i,hi,rfl⟩ <;> rcases zci hjl with⟨i',hi',rfl⟩ | ⟨i',hi',rfl⟩ | ⟨i',hi',rfl⟩ | ⟨i',hi',rfl⟩
  ·rw[g1 hk _ (zai _ _ _ _ _ _ hi).1,g1 hj _ (zai _ _ _ _ _ _ hi').1] at hbe ⊢
   simp only
   omega
  ·rw[g1 hk _ (zai _ _ _ _ _ _ hi).1,g1 hj _ (zai _ _ _ _ _ _ hi').2] at hbe ⊢
   simp only
   omega
  ·rw[g1 hk _ (zai _ _ _ _ _ _ hi).1,g1 hj _ (zaz _ _ _ _ _ _ hi')] at hbe ⊢
   exact absurd hbe (ne1 (a:=i) (b:=i') hi (by omega) rfl (Or.inl ⟨by omega,rfl⟩))
  ·rw[g1 hk _ (zai _ _ _ _ _ _ hi).1,g1 hj _ (zaw _ _ _ _ _ _ hi')] at hbe ⊢
   exact absurd hbe (ne1 (a:=i) (b:=g.s.sA.length+i') hi (by omega) rfl (Or.inr ⟨by omega,rfl⟩))
  ·rw[g1 hk _ (zai _ _ _ _ _ _ hi).2,g1 hj _ (zai _ _ _ _ _ _ hi').1] at hbe ⊢
   simp only
   omega
  ·rw[g1 hk _ (zai _ _ _ _ _ _ hi).2,g1 hj _ (zai _ _ _ _ _ _ hi').2] at hbe ⊢
   simp only
   omega
  ·rw[g1 hk _ (zai _ _ _ _ _ _ hi).2,g1 hj _ (zaz _ _ _ _ _ _ hi')] at hbe ⊢
   exact absurd hbe (ne1 (a:=i) (b:=i') hi (by omega) rfl (Or.inl ⟨by omega,rfl⟩))
  ·rw[g1 hk _ (zai _ _ _ _ _ _ hi).2,g1 hj _ (zaw _ _ _ _ _ _ hi')] at hbe ⊢
   exact absurd hbe (ne1 (a:=i) (b:=g.s.sA.length+i') hi (by omega) rfl (Or.inr ⟨by omega,rfl⟩))
  ·rw[g1 hk _ (zaz _ _ _ _ _ _ hi),g1 hj _ (zai _ _ _ _ _ _ hi').1] at hbe ⊢
   exact absurd hbe.symm (ne1 (a:=i') (b:=i) hi' (by omega) rfl (Or.inl ⟨by omega,rfl⟩))
  ·rw[g1 hk _ (zaz _ _ _ _ _ _ hi),g1 hj _ (zai _ _ _ _ _ _ hi').2] at hbe ⊢
   exact absurd hbe.symm (ne1 (a:=i') (b:=i) hi' (by omega) rfl (Or.inl ⟨by omega,rfl⟩))
  ·rw[g1 hk _ (zaz _ _ _ _ _ _ hi),g1 hj _ (zaz _ _ _ _ _ _ hi')] at hbe ⊢
   simp only
   omega
  ·rw[g1 hk _ (zaz _ _ _ _ _ _ hi),g1 hj _ (zaw _ _ _ _ _ _ hi')] at hbe ⊢
   exact absurd hbe (ne2 (by omega) (by omega))
  ·rw[g1 hk _ (zaw _ _ _ _ _ _ hi),g1 hj _ (zai _ _ _ _ _ _ hi').1] at hbe ⊢
   exact absurd hbe.symm (ne1 (a:=i') (b:=g.s.sA.length+i) hi' (by omega) rfl (Or.inr ⟨by omega,rfl⟩))
  ·rw[g1 hk _ (zaw _ _ _ _ _ _ hi),g1 hj _ (zai _ _ _ _ _ _ hi').2] at hbe ⊢
   exact absurd hbe.symm (ne1 (a:=i') (b:=g.s.sA.length+i) hi' (by omega) rfl (Or.inr ⟨by omega,rfl⟩))
  ·rw[g1 hk _ (zaw _ _ _ _ _ _ hi),g1 hj _ (zaz _ _ _ _ _ _ hi')] at hbe ⊢
   exact absurd hbe.symm (ne2 (by omega) (by omega))
  ·rw[g1 hk _ (zaw _ _ _ _ _ _ hi),g1 hj _ (zaw _ _ _ _ _ _ hi')] at hbe ⊢
   simp only
   omega
 ·rcases h.spotMem (List.mem_map_of_mem (f:=Sp.b) hs) with⟨_,_,e⟩ | ⟨_,_,e⟩ | ⟨_,_,e⟩
  ·obtain⟨_,cur,hc⟩:=h.tc _ e
   exact⟨cur,69,hc,Or.inr rfl⟩
  ·obtain⟨_,cur,hc⟩:=h.ts _ e
   exact⟨cur,67,hc,Or.inl rfl⟩
  ·obtain⟨_,cur,hc⟩:=h.tv _ e
   exact⟨cur,67,hc,Or.inl rfl⟩
theorem J.mr(h:J X w g m R):MR (J.spots g) (mfOf X g m).arr:=by
 obtain⟨qc,cc,hvc,_⟩:=zah h.oc
 obtain⟨qs,cs,hvs,_⟩:=zah h.os
 obtain⟨qv,cv,hvv,_⟩:=zah h.ov
 obtain⟨l1,l2,l3,l4⟩:=h.len
 refine MR.mk qc g.s.cA.length cc (blkOf g.vc) qs g.s.sA.length cs (blkOf g.vs) qv g.s.vA.length cv (blkOf g.vv) rfl (by rw[<-hvc];rfl) (by rw[<-hvs];rfl) (by rw[<-hvv];rfl) (fun hn=>?_) (by omega) (fun hn=>?_) (by omega) (fun hn=>?_) (by omega)
 ·obtain⟨cap,cur,hv,_⟩:=zau h.oc hn
  have hv2:=hv
  rw[hvc] at hv2
  injection hv2 with e1
  rw[<-hvc] at e1
  exact e1
 ·obtain⟨cap,cur,hv,_⟩:=zau h.os hn
  have hv2:=hv
  rw[hvs] at hv2
  injection hv2 with e1
  rw[<-hvs] at e1
  exact e1
 ·obtain⟨cap,cur,hv,_⟩:=zau h.ov hn
  have hv2:=hv
  rw[hvv] at hv2
  injection hv2 with e1
  rw[<-hvv] at e1
  exact e1
end
def room(cells:Int):Room:=fun D q n=>∀ V:List Int,V.Nodup->(∀ x,x∈V↔Reach D q x)->(zU D V:Int)+1+n<=cells
theorem zpe{a b:Int}(h:a<=b):∀ D q n,room a D q n->room b D q n:=fun _ _ _ hr V h1 h2=>Int.le_trans (hr V h1 h2) h
theorem dedup:∀ l:List Int,∃ W:List Int,W.Nodup/\∀ x,x∈W↔x∈l
 | []=>⟨[],List.nodup_nil,fun x=>Iff.rfl⟩
 | a :: l=>by
  obtain⟨W,h1,h2⟩:=dedup l
  by_cases h:a∈W
  ·exact⟨W,h1,fun x=>by
    rw[List.mem_cons,<-h2 x]
    constructor
    ·exact Or.inr
    ·rintro(rfl | h3)
     ·exact h
     ·exact h3⟩
  ·exact⟨a :: W,List.nodup_cons.2 ⟨h,h1⟩,fun x=>by rw[List.mem_cons,List.mem_cons,h2]⟩
theorem znm{a:Int}{ts:List Th}{rs:List Cl}(hc:zdn a ts)(hr:zc5 (zO a ts) rs):∃ V:List Int,V.Nodup/\∀ x,x∈V↔Reach (zO a ts) rs x:=by
 classical
 obtain⟨W,h1,h2⟩:=dedup ((addrs a ts).filter (fun x=>decide (Reach (zO a ts) rs x)))
 refine⟨W,h1,fun x=>?_⟩
 rw[h2,List.mem_filter]
 constructor
 ·rintro⟨_,h⟩
  simpa using h
 ·intro h
  exact⟨(zfl a ts x).2 (zhs hc hr h),by simpa using h⟩
theorem Iso.list{P D:Doc}{R:Int->Int->Prop}{ps qs:List Cl}(h:Iso P D R ps qs){V:List Int}(hV:∀ x,x∈V↔Reach P ps x):∃ W:List Int,W.Nodup/\∀ y,y∈W↔Reach D qs y:=by
 classical
 have hex:∀ x,x∈V->∃ y,R x y:=fun x hx=>by
  obtain⟨y,h1,_⟩:=h.reach ((hV x).1 hx)
  exact⟨y,h1⟩
 let f:Int->Int:=fun x=>if hx:∃ y,R x y then Classical.choose hx else 0
 have hf:∀ x,x∈V->R x (f x):=fun x hx=>by
  simp only[f]
  rw[dif_pos (hex x hx)]
  exact Classical.choose_spec (hex x hx)
 obtain⟨W,h1,h2⟩:=dedup (V.map f)
 refine⟨W,h1,fun y=>?_⟩
 rw[h2,List.mem_map]
 constructor
 ·rintro⟨x,hx,rfl⟩
  obtain⟨y,h1,h2⟩:=h.reach ((hV x).1 hx)
  rw[h.one.l x _ _ (hf x hx) h1]
  exact h2
 ·intro hy
  obtain⟨x,h1,h2⟩:=h.reach' hy
  have hx:=(hV x).2 h2
  exact⟨x,hx,h.one.l x _ _ (hf x hx) h1⟩
theorem zl4{P D:Doc}{R:Int->Int->Prop}{ps qs:List Cl}(h:Iso P D R ps qs){V:List Int}(hn:V.Nodup)(hV:∀ x,x∈V↔Reach P ps x){cells:Int}{n:Nat} : room cells D qs n↔(zU P V:Int)+1+n<=cells:=by
 constructor
 ·intro hr
  obtain⟨W,hW,hW2⟩:=h.list hV
  rw[h.cells hn hW hV hW2]
  exact hr W hW hW2
 ·intro hr W hW hW2
  rw[<-h.cells hn hW hV hW2]
  exact hr
section
variable{X:Fx}{w:World}{g:Pg}{m:AM}{R:Int->Int->Prop}
theorem J.rok(h:J X w g m R):zc5 (zO g.first g.ts) g.s.roots:=fun y hy=>by
 obtain⟨⟨cp,cn⟩,_,h1,_,h3⟩:=h.iso.roots.mem hy
 obtain⟨t,u,e1,_⟩:=h.th _ _ (h3 rfl)
 rw[show zO g.first g.ts y=some t from e1]
 rfl
theorem zma{w w1:World}{base:Nat}{v:Value}{l:List Cl}(ho:OwnC w base v l)(l1:List Cl)(hl:l1.length=l.length)(h0:l.length=0->∀ k,v.ownBlock=some k->w1.heap[k]? = w.heap[k]?)(h:0 < l.length->∃ cur cur':Array Value,w.heap[blkOf v]? = some (.cells cur 67)/\w1.heap[blkOf v]? = some (.cells cur' 67)/\cur'.size=cur.size/\∀ i (hi:i < l1.length),cur'[i * 2]? = some (.bool (l1[i]'hi).p)/\cur'[i * 2+1]? = some (.int .i64 (l1[i]'hi).n)):OwnC w1 base v l1:=by
 by_cases hz:l.length=0
 ·have e1:l=[]:=List.eq_nil_of_length_eq_zero hz
  have e2:l1=[]:=List.eq_nil_of_length_eq_zero (by omega)
  subst e1
  subst e2
  exact OwnC.keep ho (h0 rfl)
 ·obtain⟨cur,cur',c1,c2,c3,c4⟩:=h (by omega)
  obtain⟨cap,cu,hv,_,hh,hs,hn,hm,hb,hx⟩:=zau ho (by omega)
  rw[hh] at c1
  cases c1
  unfold OwnC
  rw[hv,hl]
  refine zgn hb c2 hn hm (by rw[c3];exact hs) (by rw[zhy,hl]) (fun j hj=>?_)
  have hi:j / 2 < l1.length:=by omega
  obtain⟨d0,d1⟩:=c4 (j / 2) hi
  by_cases hp:j % 2=0
  ·rw[show j=j / 2 * 2 by omega,d0]
   have:=zbh l1 (j / 2) hi 0 (by omega)
   rw[Nat.add_zero] at this
   rw[this]
   rfl
  ·rw[show j=j / 2 * 2+1 by omega,d1,zbh l1 (j / 2) hi 1 (by omega)]
   rfl
theorem zpz{w w1:World}{base:Nat}{v:Value}{l:List Cal}(ho:OwnK w base v l)(hn:0 < l.length)(rs:List Cl)(hrl:rs.length=2 * l.length){cur cur':Array Value}(c1:w.heap[blkOf v]? = some (.cells cur 69))(c2:w1.heap[blkOf v]? = some (.cells cur' 69))(c3:cur'.size=cur.size)(c4:∀ i,i < l.length->cur'[i * 9+1]? = some (.bool ((rs[2 * i]?).getD default).p)/\cur'[i * 9+2]? = some (.int .i64 ((rs[2 * i]?).getD default).n)/\cur'[i * 9+3]? = some (.bool ((rs[2 * i+1]?).getD default).p)/\cur'[i * 9+4]? = some (.int .i64 ((rs[2 * i+1]?).getD default).n))(c5:∀ i,i < l.length->∀ k,k=0\/5<=k->k < 9->cur'[i * 9+k]? = cur[i * 9+k]?):OwnK w1 base v (putC l rs):=by
 obtain⟨cap,cu,hv,_,hh,hs,hcap,hm,hb,hx⟩:=zau ho hn
 rw[hh] at c1
 cases c1
 unfold OwnK
 rw[hv,ze8]
 refine zgn hb c2 hcap hm (by rw[c3];exact hs) (by rw[zd2,zmq calV 9 zcu,ze8]) (fun j hj=>?_)
 have hi:j / 9 < l.length:=by omega
 have hi':j / 9 < (putC l rs).length:=by rw[ze8];exact hi
 have hk:j % 9 < 9:=by omega
 have e:=zcr calV 9 zcu (putC l rs) (j / 9) hi' (j % 9) hk
 have e0:=zcr calV 9 zcu l (j / 9) hi (j % 9) hk
 have hx0:=hx (j / 9 * 9+j % 9) (by omega)
 rw[show zd2 l=l.flatMap calV from rfl,e0] at hx0
 have ej:j / 9 * 9+j % 9=j:=by omega
 rw[show zd2 (putC l rs)=(putC l rs).flatMap calV from rfl]
 rw[<-ej,e,zil (zla l rs hrl (j / 9) hi) hi']
 obtain⟨d1,d2,d3,d4⟩:=c4 (j / 9) hi
 have d5:=c5 (j / 9) hi (j % 9)
 generalize j % 9=k at *
 have:k=0\/k=1\/k=2\/k=3\/k=4\/k=5\/k=6\/k=7\/k=8:=by omega
 rcases this with rfl | rfl | rfl | rfl | rfl | rfl | rfl | rfl | rfl
 ·rw[d5 (Or.inl rfl) (by omega),hx0]
  rfl
 ·rw[d1]
  rfl
 ·rw[d2]
  rfl
 ·rw[d3]
  rfl
 ·rw[d4]
  rfl
 ·rw[d5 (Or.inr (by omega)) (by omega),hx0]
  rfl
 ·rw[d5 (Or.inr (by omega)) (by omega),hx0]
  rfl
 ·rw[d5 (Or.inr (by omega)) (by omega),hx0]
  rfl
 ·rw[d5 (Or.inr (by omega)) (by omega),hx0]
  rfl
def Pg.moved(g:Pg)(first:Int)(v:Value)(ts:List Th)(rs:List Cl):Pg:={g with first:=first,v:=v,ts:=ts,s:=g.s.putR rs}
theorem zfe{l:List Cl}{i:Nat}(hi:i < l.length):(l[i]?).getD default=l[i]'hi:=by
 rw[gE hi]
 rfl
theorem J.gc(h:J X w g m R)(hn:0 < g.s.cA.length){w1:World}{first1:Int}{v1:Value}{ts1:List Th}{rs1:List Cl}(hg:Gc w X.hp X.cells g.first g.v g.ts g.s.roots (J.spots g) w1 first1 v1 ts1 rs1)(m':AM)(hm:m'={m with next:=m.next+1})(hnx:m.next+1<=1000000000):∃ R1,J X w1 (g.moved first1 v1 ts1 rs1) m' R1/\Mv X w g w1 (g.moved first1 v1 ts1 rs1)/\(∀ x y,R1 x y->∃ z,R z y):=by
 subst hm
 obtain⟨R1,hi1,hi2⟩:=hg.iso m.D R m.s.roots h.iso
 have hrl:=hg.len
 have hrl2:=hrl
 rw[zdc] at hrl2
 have hsl:=zjb g
 have hmb:=h.box
 unfold MBx at hmb
 have hgk:=hg.k
 have spot:∀ b,b∈[X.hp]++g.v.ownBlock.toList++(J.spots g).map Sp.b->b=X.hp\/g.v.ownBlock=some b\/(0 < g.s.cA.length/\b=blkOf g.vc/\g.vc.ownBlock=some b)\/(0 < g.s.sA.length/\b=blkOf g.vs/\g.vs.ownBlock=some b)\/(0 < g.s.vA.length/\b=blkOf g.vv/\g.vv.ownBlock=some b):=fun b hb=>by
  rcases List.mem_append.1 hb with hb | hb
  ·rcases List.mem_append.1 hb with hb | hb
   ·exact Or.inl (List.mem_singleton.1 hb)
   ·exact Or.inr (Or.inl (by simpa using hb))
  ·exact Or.inr (Or.inr (h.spotMem hb))
 have other:∀ (v:Value) (t:TypeId),blkT w v t->t≠91->t≠186->t≠69->t≠67->∀ k,v.ownBlock=some k->k∉[X.hp]++g.v.ownBlock.toList++(J.spots g).map Sp.b:=fun v t hv n1 n2 n3 n4 k hk hx=>by
  obtain⟨_,cur,hc⟩:=hv k hk
  rcases spot k hx with rfl | e | ⟨_,_,e⟩ | ⟨_,_,e⟩ | ⟨_,_,e⟩
  ·rw[h.hh.box] at hc
   cases hc
   exact n1 rfl
  ·obtain⟨_,c2,h2⟩:=h.tw k e
   rw[h2] at hc
   cases hc
   exact n2 rfl
  ·obtain⟨_,c2,h2⟩:=h.tc k e
   rw[h2] at hc
   cases hc
   exact n3 rfl
  ·obtain⟨_,c2,h2⟩:=h.ts k e
   rw[h2] at hc
   cases hc
   exact n4 rfl
  ·obtain⟨_,c2,h2⟩:=h.tv k e
   rw[h2] at hc
   cases hc
   exact n4 rfl
 have hmm:X.mm∉[X.hp]++g.v.ownBlock.toList++(J.spots g).map Sp.b:=fun hx=>by
  rcases spot _ hx with e | e | ⟨_,_,e⟩ | ⟨_,_,e⟩ | ⟨_,_,e⟩
  ·exact h.hpne e.symm
  ·exact h.tw.ne hmb (by decide) (by simpa using e)
  ·exact h.tc.ne hmb (by decide) (by simpa using e)
  ·exact h.ts.ne hmb (by decide) (by simpa using e)
  ·exact h.tv.ne hmb (by decide) (by simpa using e)
 have hY:∀ y∈[X.hp]++g.v.ownBlock.toList++(J.spots g).map Sp.b,y∈fpt X g:=fun y hy=>by
  unfold fpt
  simp only[List.mem_cons,List.mem_append,Option.mem_toList]
  rcases spot y hy with e | e | ⟨_,_,e⟩ | ⟨_,_,e⟩ | ⟨_,_,e⟩
  ·exact Or.inr (Or.inl e)
  ·exact Or.inr (Or.inr (Or.inl e))
  ·exact Or.inr (Or.inr (Or.inr (Or.inl e)))
  ·exact Or.inr (Or.inr (Or.inr (Or.inr (Or.inl e))))
  ·exact Or.inr (Or.inr (Or.inr (Or.inr (Or.inr (Or.inl e)))))
 have inS:∀ (k:Nat) (s:Sp),(J.spots g)[k]? = some s->s∈J.spots g:=fun k s e=>List.mem_iff_getElem?.2 ⟨k,e⟩
 have gets:∀ (k:Nat) (s:Sp),(J.spots g)[k]? = some s->w1.cell? ⟨s.b,s.o,none⟩=some (.bool (((rs1[k]?).getD default:Cl)).p)/\w1.cell? ⟨s.b,s.o+1,none⟩=some (.int .i64 (((rs1[k]?).getD default:Cl)).n):=fun k s e=>by
  obtain⟨hk,e2⟩:=List.getElem?_eq_some_iff.1 e
  have hk1:k < rs1.length:=by omega
  have:=hg.r.get k hk hk1
  rw[e2] at this
  rw[zfe hk1]
  exact this
 have hcl:=h.clen
 -- the cA
 obtain⟨capc,curc,hvc,hoc,hhc,hsc,_,_,_,_⟩:=zau h.oc hn
 have hinc:blkOf g.vc∈(J.spots g).map Sp.b:=by
  have e:=(zai (blkOf g.vc) g.s.cA.length (blkOf g.vs) g.s.sA.length (blkOf g.vv) g.s.vA.length hn).1
  exact List.mem_map.2 ⟨_,inS _ _ e,rfl⟩
 obtain⟨curc',kc1,kc2,kc3⟩:=hg.r.fr (blkOf g.vc) curc 69 hinc hhc
 have oc1:OwnK w1 X.base g.vc (putC g.s.cA (rs1.take (2 * g.s.cA.length))):=by
  refine zpz h.oc hn _ (by simp;omega) hhc kc1 kc2 (fun i hi=>?_) (fun i hi k hk hk9=>?_)
  ·obtain⟨e1,e2⟩:=zai (blkOf g.vc) g.s.cA.length (blkOf g.vs) g.s.sA.length (blkOf g.vv) g.s.vA.length hi
   obtain⟨a1,a2⟩:=gets _ _ e1
   obtain⟨a3,a4⟩:=gets _ _ e2
   rw[List.getElem?_take_of_lt (by omega),List.getElem?_take_of_lt (by omega)]
   rw[zcn kc1] at a1 a2 a3 a4
   exact⟨a1,a2,a3,a4⟩
  ·refine kc3 _ (fun s hs hb=>?_)
   obtain⟨q,hq⟩:=List.mem_iff_getElem?.1 hs
   have hql:=(List.getElem?_eq_some_iff.1 hq).1
   rw[J.spots,zb8] at hql
   rw[J.spots] at hq
   rcases zci hql with⟨i',hi',rfl⟩ | ⟨i',hi',rfl⟩ | ⟨i',hi',rfl⟩ | ⟨i',hi',rfl⟩
   ·rw[(zai _ _ _ _ _ _ hi').1] at hq
    cases hq
    simp only
    omega
   ·rw[(zai _ _ _ _ _ _ hi').2] at hq
    cases hq
    simp only
    omega
   ·rw[zaz _ _ _ _ _ _ hi'] at hq
    cases hq
    simp only at hb
    obtain⟨_,_,_,e2,_⟩:=zau h.os (show 0 < g.s.sA.length by omega)
    obtain⟨_,c2,h2⟩:=h.ts _ e2
    rw[hb,hhc] at h2
    cases h2
   ·rw[zaw _ _ _ _ _ _ hi'] at hq
    cases hq
    simp only at hb
    obtain⟨_,_,_,e2,_⟩:=zau h.ov (show 0 < g.s.vA.length by omega)
    obtain⟨_,c2,h2⟩:=h.tv _ e2
    rw[hb,hhc] at h2
    cases h2
 have os1:OwnC w1 X.base g.vs ((rs1.drop (2 * g.s.cA.length)).take g.s.sA.length):=by
  refine zma h.os _ (by simp;omega) (fun hz k hk=>?_) (fun hp=>?_)
  ·refine hgk.block k (h.ts k hk).1 (fun hx=>?_)
   obtain⟨_,cur,hc⟩:=h.ts k hk
   rcases spot k hx with rfl | e | ⟨_,_,e⟩ | ⟨h0,_⟩ | ⟨_,_,e⟩
   ·rw[h.hh.box] at hc
    cases hc
   ·obtain⟨_,c2,h2⟩:=h.tw k e
    rw[h2] at hc
    cases hc
   ·obtain⟨_,c2,h2⟩:=h.tc k e
    rw[h2] at hc
    cases hc
   ·omega
   ·exact h.dj k hk e
  ·obtain⟨_,cur,_,e2,hh,_⟩:=zau h.os hp
   have hin:blkOf g.vs∈(J.spots g).map Sp.b:=List.mem_map.2 ⟨_,inS _ _ (zaz (blkOf g.vc) g.s.cA.length (blkOf g.vs) g.s.sA.length (blkOf g.vv) g.s.vA.length hp),rfl⟩
   obtain⟨cur',k1,k2,_⟩:=hg.r.fr _ cur 67 hin hh
   refine⟨cur,cur',hh,k1,k2,fun i hi=>?_⟩
   have hi2:i < g.s.sA.length:=by simp at hi;omega
   obtain⟨a1,a2⟩:=gets _ _ (zaz (blkOf g.vc) g.s.cA.length (blkOf g.vs) g.s.sA.length (blkOf g.vv) g.s.vA.length hi2)
   rw[zcn k1,zfe (by omega)] at a1 a2
   rw[List.getElem_take,List.getElem_drop]
   exact⟨a1,a2⟩
 have ov1:OwnC w1 X.base g.vv (rs1.drop (2 * g.s.cA.length+g.s.sA.length)):=by
  refine zma h.ov _ (by simp;omega) (fun hz k hk=>?_) (fun hp=>?_)
  ·refine hgk.block k (h.tv k hk).1 (fun hx=>?_)
   obtain⟨_,cur,hc⟩:=h.tv k hk
   rcases spot k hx with rfl | e | ⟨_,_,e⟩ | ⟨_,_,e⟩ | ⟨h0,_⟩
   ·rw[h.hh.box] at hc
    cases hc
   ·obtain⟨_,c2,h2⟩:=h.tw k e
    rw[h2] at hc
    cases hc
   ·obtain⟨_,c2,h2⟩:=h.tc k e
    rw[h2] at hc
    cases hc
   ·exact h.dj k e hk
   ·omega
  ·obtain⟨_,cur,_,e2,hh,_⟩:=zau h.ov hp
   have hin:blkOf g.vv∈(J.spots g).map Sp.b:=List.mem_map.2 ⟨_,inS _ _ (zaw (blkOf g.vc) g.s.cA.length (blkOf g.vs) g.s.sA.length (blkOf g.vv) g.s.vA.length hp),rfl⟩
   obtain⟨cur',k1,k2,_⟩:=hg.r.fr _ cur 67 hin hh
   refine⟨cur,cur',hh,k1,k2,fun i hi=>?_⟩
   have hi2:i < g.s.vA.length:=by simp at hi;omega
   obtain⟨a1,a2⟩:=gets _ _ (zaw (blkOf g.vc) g.s.cA.length (blkOf g.vs) g.s.sA.length (blkOf g.vv) g.s.vA.length hi2)
   rw[zcn k1,zfe (by omega)] at a1 a2
   rw[List.getElem_drop]
   exact⟨a1,a2⟩
 have hri:=hi1.roots
 have hst1:StIso R1 (g.s.putR rs1) m.s:=by
  have hml:=zdc m.s
  have hvl:=h.vlen
  have hsl2:=h.slen
  have hmcl:=zei m.s.cA
  refine⟨by rw[zfr];exact hcl,fun i hi hk=>?_,?_,?_,h.st.tr⟩
  ·have hi0:i < g.s.cA.length:=by rw[zfr] at hi;exact hi
   have h0:=h.st.ca i hi0 hk
   have hp:((g.s.putR rs1).cA)[i]'hi=_:=zil (zla g.s.cA (rs1.take (2 * g.s.cA.length)) (by simp;omega) i hi0) hi
   rw[hp]
   have r1:=hri.at_ (2 * i) (by omega) (by omega)
   have r2:=hri.at_ (2 * i+1) (by omega) (by omega)
   obtain⟨q1,q2⟩:=zd6 m.s.cA i hk
   have e1:m.s.roots[2 * i]'(by omega)=(m.s.cA[i]'hk).fn:=zil (by unfold St.roots;rw[List.getElem?_append_left (by omega)];exact q1) _
   have e2:m.s.roots[2 * i+1]'(by omega)=(m.s.cA[i]'hk).arg:=zil (by unfold St.roots;rw[List.getElem?_append_left (by omega)];exact q2) _
   rw[e1] at r1
   rw[e2] at r2
   refine⟨h0.num,h0.pc,h0.sb,h0.vb,h0.tb,?_,?_⟩
   ·simp only
    rw[List.getElem?_take_of_lt (by omega),zfe (by omega)]
    exact r1
   ·simp only
    rw[List.getElem?_take_of_lt (by omega),zfe (by omega)]
    exact r2
  ·have e:m.s.sA=(m.s.roots.drop (2 * g.s.cA.length)).take g.s.sA.length:=by
    unfold St.roots
    rw[show 2 * g.s.cA.length=(zY m.s.cA).length by omega,List.drop_left,hsl2,List.take_left]
   rw[e]
   exact(hri.dropN _).take _
  ·have e:m.s.vA=m.s.roots.drop (2 * g.s.cA.length+g.s.sA.length):=by
    unfold St.roots
    rw[<-List.drop_drop,show 2 * g.s.cA.length=(zY m.s.cA).length by omega,List.drop_left,hsl2,List.drop_left]
   rw[e]
   exact hri.dropN _
 refine⟨R1,⟨h.box.kp hgk hmm,oc1,os1,ov1,zaf h.ot hgk (other _ _ h.tt (by decide) (by decide) (by decide) (by decide)),zaf h.oo hgk (other _ _ h.to (by decide) (by decide) (by decide) (by decide)),h.dj,hg.hp,hg.cl,hg.oth h.oth,fun c hc=>?_,hi1.one,hst1,hi1.things,h.lbw hgk hY,⟨h.lb.1,h.lb.2.1,h.lb.2.2.1,fun k hk=>?_⟩,Nat.le_trans h.bs hgk.size,h.ck,?_,⟨by have:=h.nx;show 0<=m.next+1;omega,hnx⟩,fun y hy=>by have:=h.nd y hy;show y < m.next+1;omega,?_⟩,⟨hgk.mono hY,fun k hk=>?_⟩,hi2⟩
 ·have hc':c∈(g.s.putR rs1).roots:=hc
  rw[znp _ _ hrl] at hc'
  exact hg.wfr h.wfr c hc'
 ·rcases hg.f with e | ⟨g',e,hg'⟩
  ·exact h.lb.2.2.2 k (by rw[<-e];exact hk)
  ·rw[show(g.moved first1 v1 ts1 rs1).v=v1 from rfl,e] at hk
   cases hk
   exact Nat.le_trans h.bl.size hg'
 ·have:=hg.lt
  have:=h.fb
  show first1<=1+1000001 * (m.next+1+1)
  omega
 ·have hl:=h.len
  refine⟨by rw[show(g.moved first1 v1 ts1 rs1).s.cA.length=g.s.cA.length from zfr _ _];exact hl.1,by rw[show(g.moved first1 v1 ts1 rs1).s.sA.length=g.s.sA.length from zno _ _ hrl];exact hl.2.1,by rw[show(g.moved first1 v1 ts1 rs1).s.vA.length=g.s.vA.length from zk9 _ _ hrl];exact hl.2.2.1,hl.2.2.2⟩
 ·unfold fpt at hk ⊢
  simp only[Pg.moved,List.mem_cons,List.mem_append,Option.mem_toList] at hk ⊢
  rcases hk with hk | hk | hk | hk | hk | hk | hk | hk
  ·exact Or.inl (Or.inl hk)
  ·exact Or.inl (Or.inr (Or.inl hk))
  ·rcases hg.f with e | ⟨g',e,hg'⟩
   ·exact Or.inl (Or.inr (Or.inr (Or.inl (by rw[<-e];exact hk))))
   ·rw[e] at hk
    cases hk
    exact Or.inr hg'
  ·exact Or.inl (Or.inr (Or.inr (Or.inr (Or.inl hk))))
  ·exact Or.inl (Or.inr (Or.inr (Or.inr (Or.inr (Or.inl hk)))))
  ·exact Or.inl (Or.inr (Or.inr (Or.inr (Or.inr (Or.inr (Or.inl hk))))))
  ·exact Or.inl (Or.inr (Or.inr (Or.inr (Or.inr (Or.inr (Or.inr (Or.inl hk)))))))
  ·exact Or.inl (Or.inr (Or.inr (Or.inr (Or.inr (Or.inr (Or.inr (Or.inr hk)))))))
end
end Go.Proofs.YtkcmachfagcnaaaGreatDoor
