/- Part of Greater. -/
import Derived.RangeFuncNested
import Derived.RangeFuncBound
import Derived.RangeFuncCalls
import Derived.RangeFuncLeaves
import Derived.RecoverIn
import Derived.Shelf.Abstract
import Derived.Shelf.RegionOpen
import Derived.OwnWalkIn
import Derived.TacticsInMore
import Derived.LoopNIn
import Derived.LoopIn
import Derived.Test.YtkcmachfagcnaaaGreatDoorB15
set_option maxHeartbeats 8000000
set_option maxRecDepth 100000
namespace Go.Proofs.YtkcmachfagcnaaaGreatDoor
open Go.RowKit Go.Deep Go.IntWalk
structure Mvg(w:World)(mb:Nat)(cells a tf:Int)(ts:List Th)(rs:List Cl)(fv tv:Value)(V:List Int)(i:Nat):Prop where
 mem:MvM w mb cells a tf fv tv (encL (mkV (zO a ts) V) a ts) (scan (zO a ts) tf V i)
 nd:V.Nodup
 there:∀ x∈V,(zO a ts x).isSome=true
 rch:∀ x∈V,Reach (zO a ts) rs x
 sn:Sn (zO a ts) V i
 le:i<=(raw (zO a ts) V).length
theorem Mvg.kp{X:List Nat}{w w':World}{mb:Nat}{cells a tf:Int}{ts:List Th}{rs:List Cl}{fv tv:Value}{V:List Int}{i:Nat}(h:Mvg w mb cells a tf ts rs fv tv V i)(hk:Kp X w w')(h1:mb∉X)(h2:∀ k,fv.ownBlock=some k->k∉X)(h3:∀ k,tv.ownBlock=some k->k∉X):Mvg w' mb cells a tf ts rs fv tv V i:=
 ⟨h.mem.kp hk h1 h2 h3,h.nd,h.there,h.rch,h.sn,h.le⟩
theorem Mvg.small{w:World}{mb:Nat}{cells a tf:Int}{ts:List Th}{rs:List Cl}{fv tv:Value}{V:List Int}{i:Nat}(h:Mvg w mb cells a tf ts rs fv tv V i):total ts<=1000000:=by
 have:=h.mem.flen
 rwa [zak] at this
inductive Grow(V:List Int)(x:Int):List Int->Prop
 | same (h:x∈V):Grow V x V
 | more (h:x∉V):Grow V x (V++[x])
theorem Grow.has{V W:List Int}{x:Int}(h:Grow V x W):x∈W:=by
 cases h with
 | same h=>exact h
 | more h=>simp
theorem Grow.sub{V W:List Int}{x:Int}(h:Grow V x W):∀ y∈V,y∈W:=by
 cases h with
 | same h=>exact fun y hy=>hy
 | more h=>exact fun y hy=>by simp[hy]
theorem Grow.same_fw{V W:List Int}{x:Int}(h:Grow V x W)(P:Doc)(tf:Int):∀ y∈V,fw P tf W y=fw P tf V y:=by
 cases h with
 | same h=>exact fun y hy=>rfl
 | more h=>exact fun y hy=>by unfold fw;rw[zib P [x] V hy]
inductive MgPost(w:World)(mb:Nat)(cells a tf:Int)(ts:List Th)(rs:List Cl)(fv tv:Value)(V:List Int)(i:Nat)(x:Int):Ending->World->Prop
 | mk (V':List Int) (tv':Value) (w':World) (hg:Grow V x V') (h:Mvg w' mb cells a tf ts rs fv tv' V' i) (hk:Kp ([mb]++fv.ownBlock.toList++tv.ownBlock.toList) w w') (hf:tv'.ownBlock=tv.ownBlock\/∃ g,tv'.ownBlock=some g/\w.heap.size<=g) :
  MgPost w mb cells a tf ts rs fv tv V i x (.returned (.int .i64 (fw (zO a ts) tf V' x))) w'
theorem zmf(w:World)(mb:Nat)(cells a tf:Int)(ts:List Th)(rs:List Cl)(fv tv:Value)(V:List Int)(i:Nat)(h:Mvg w mb cells a tf ts rs fv tv V i)(x:Int)(hx:(zO a ts x).isSome=true)(hr:Reach (zO a ts) rs x) :
  Calls Tryz.prog 144 #[.pointer (some ⟨mb,0,none⟩),.int .i64 x] w fun e w'=>MgPost w mb cells a tf ts rs fv tv V i x e w':=by
 obtain⟨t,ht⟩:=Option.isSome_iff_exists.1 hx
 obtain⟨l,r,hts,hxe⟩:=zed _ _ _ ht
 have hd:=zrc (mkV (zO a ts) V) a l t r
 rw[<-hts,<-hxe] at hd
 have htot:=h.small
 have hthP:thP (zO a ts) x=t:=by unfold thP;rw[ht];rfl
 by_cases hV:x∈V
 ·have hm:mkV (zO a ts) V x=(pos (zO a ts) V x:Int)+1:=by unfold mkV;rw[if_pos hV]
  have hpl:=zut (zO a ts) V hV
  have hcl:=zeo h.nd h.there
  rw[zev] at hpl
  have:=znv w mb cells a tf fv tv _ _ h.mem (total l) _ hd (by simp only[hdw,hm];omega) (by simp only[hdw,hm];omega)
  rw[<-hxe] at this
  refine cM this ?_
  intro e w' he
  cases he with
  | old _ w' hw=>
   have e:tf+(hdw (mkV (zO a ts) V x) t).moved - 1=fw (zO a ts) tf V x:=by simp only[hdw,hm,fw];omega
   rw[e]
   exact MgPost.mk V tv w' (Grow.same hV) (h.kp (Kp.zB (X:=[]) hw) (by simp) (by simp) (by simp)) (Kp.zB hw) (Or.inl rfl)
  | new h0=>simp only[hdw,hm] at h0;omega
 ·have hm:mkV (zO a ts) V x=0:=by unfold mkV;rw[if_neg hV]
  have hnd:(V++[x]).Nodup:=List.nodup_append.2 ⟨h.nd,by simp,by intro a ha b hb;simp at hb;subst hb;exact fun e=>hV (e ▸ ha)⟩
  have hth:∀ y∈V++[x],(zO a ts y).isSome=true:=fun y hy=>by
   rcases List.mem_append.1 hy with hy | hy
   ·exact h.there y hy
   ·simp at hy;subst hy;exact hx
  have hcl:=zeo hnd hth
  rw[zlr] at hcl
  have hfs:fsOf (zO a ts) x=t.fs:=by unfold fsOf;rw[ht];rfl
  have hsl:(scan (zO a ts) tf V i).length=zU (zO a ts) V:=by rw[zdq,zev]
  rw[hfs] at hcl
  have:=znw w mb cells a tf fv tv _ _ h.mem (total l) _ hd hm (by rw[hsl];simp only[hdw,Int.toNat_natCast];omega)
  rw[<-hxe] at this
  refine cM this ?_
  intro e w' he
  cases he with
  | old h0=>exact absurd hm h0
  | new _ tv' w' hM hk hf=>
   have e:tf+((scan (zO a ts) tf V i).length:Int)=fw (zO a ts) tf (V++[x]) x:=by unfold fw;rw[zlc _ V hV,zdq]
   rw[e]
   refine MgPost.mk (V++[x]) tv' w' (Grow.more hV) ⟨?_,hnd,hth,fun y hy=>?_,h.sn.more h.le x,by rw[ze7,lA];have:=h.le;omega⟩ hk hf
   ·have e1:(encL (mkV (zO a ts) V) a ts).set (total l) {hdw (mkV (zO a ts) V x) t with moved:=((scan (zO a ts) tf V i).length:Int)+1} = encL (mkV (zO a ts) (V++[x])) a ts:=by
     have e2:=zt4 (mkV (zO a ts) V) a l t r ((raw (zO a ts) V).length+1)
     rw[<-hts,<-hxe] at e2
     rw[zs9 _ V hV,<-e2,zdq]
     rfl
    have e3:((encL (mkV (zO a ts) V) a ts).drop (total l)).take ((hdw (mkV (zO a ts) V x) t).n.toNat+1)=encT 0 (thP (zO a ts) x):=by
     have e4:=zra (mkV (zO a ts) V) a l t r
     rw[<-hts,<-hxe,hm] at e4
     rw[hthP,<-e4]
     simp only[hdw,Int.toNat_natCast]
    rw[zpa tf h.sn h.le x,<-e3,<-e1]
    exact hM
   ·rcases List.mem_append.1 hy with hy | hy
    ·exact h.rch y hy
    ·simp at hy;subst hy;exact hr
def put5(w:World)(b o:Nat)(x:Wd):World:=((((w.setCell ⟨b,o,none⟩ (.int .i64 x.n)).setCell ⟨b,o+1,none⟩ (.int .i32 x.moved)).setCell ⟨b,o+2,none⟩ (.int .u16 x.tag)).setCell ⟨b,o+3,none⟩ (.int .u8 x.kind)).setCell ⟨b,o+4,none⟩ (.int .u8 x.part)
theorem zia(w:World)(b o:Nat)(x:Wd):Kp [b] w (put5 w b o x):=
 ((((Kp.setCell _ ⟨b,_,none⟩ (by simp) _).trans (Kp.setCell _ ⟨b,_,none⟩ (by simp) _)).trans (Kp.setCell _ ⟨b,_,none⟩ (by simp) _)).trans (Kp.setCell _ ⟨b,_,none⟩ (by simp) _)).trans (Kp.setCell _ ⟨b,_,none⟩ (by simp) _)
theorem zl6{w:World}{v:Value}{l:List Wd}(h:OwnW w v l){g:Nat}(hg:v.ownBlock=some g)(k:Nat)(hk:k < l.length)(x:Wd):OwnW (put5 w g (k * 5) x) v (l.set k x):=by
 have h1:=za2 (za2 (za2 (za2 (za2 h hg (k * 5) (.int .i64 x.n)) hg (k * 5+1) (.int .i32 x.moved)) hg (k * 5+2) (.int .u16 x.tag)) hg (k * 5+3) (.int .u8 x.kind)) hg (k * 5+4) (.int .u8 x.part)
 unfold OwnW
 rw[List.length_set,<-zou l k hk x]
 exact h1
theorem MvM.setTo{w:World}{mb:Nat}{cells first tfirst:Int}{fv tv:Value}{fws tws:List Wd}(h:MvM w mb cells first tfirst fv tv fws tws){g:Nat}(hg:tv.ownBlock=some g)(k:Nat)(hk:k < tws.length)(x:Wd):MvM (put5 w g (k * 5) x) mb cells first tfirst fv tv fws (tws.set k x):=by
 have hne:mb≠g:=fun e=>h.town.ne h.box (by decide) (e ▸ hg)
 exact⟨((zia w g (k * 5) x).block mb (sz h.box) (by simpa using hne)).trans h.box,h.fown.kp (zia w g (k * 5) x) (fun j hj=>by simp;exact fun e=>h.apart j hj (e ▸ hg)),zl6 h.town hg k hk x,h.apart,h.flen,by rw[List.length_set];exact h.tlen,h.pos,h.tpos⟩
theorem MvM.toRow{w:World}{mb:Nat}{cells first tfirst:Int}{fv tv:Value}{fws tws:List Wd}(h:MvM w mb cells first tfirst fv tv fws tws){k:Nat}{y:Wd}(hk:tws[k]? = some y):∃ g cap,tv=.slice (some ⟨g,0,none⟩) tws.length cap/\tws.length<=cap/\WdAt w g 0 k y/\g < w.heap.size/\(∀ o,w.frozen? ⟨g,o,none⟩=false)/\w.cell? ⟨mb,5,none⟩=some tv/\mb < w.heap.size:=by
 obtain⟨q,cap,rfl,hc,hr,_,ha⟩:=h.town.at h.tlen
 obtain⟨g,hp,hw,hl⟩:=hr.at_ hk
 subst hp
 have hb:=h.box
 exact⟨g,cap,rfl,hc,hw,hl,fun o=>zce h.town rfl o,by simp only[World.cell?,hb];rfl,(sz hb)⟩
theorem MvM.toCell{w:World}{mb:Nat}{cells first tfirst:Int}{fv tv:Value}{fws tws:List Wd}(h:MvM w mb cells first tfirst fv tv fws tws):∃ q cap,tv=.slice q tws.length cap/\w.cell? ⟨mb,5,none⟩=some (.slice q tws.length cap)/\mb < w.heap.size:=by
 obtain⟨q,cap,rfl,hc,hr,_,ha⟩:=h.town.at h.tlen
 have hb:=h.box
 exact⟨q,cap,rfl,by simp only[World.cell?,hb];rfl,(sz hb)⟩
structure FS(w:World)(mb:Nat)(cells a tf:Int)(ts:List Th)(rs:List Cl)(fv tv0:Value)(V0:List Int)(wr:World)(tv:Value)(V:List Int)(i:Nat):Prop where
 m:Mvg wr mb cells a tf ts rs fv tv V i
 k:Kp ([mb]++fv.ownBlock.toList++tv0.ownBlock.toList) w wr
 f:tv.ownBlock=tv0.ownBlock\/∃ g,tv.ownBlock=some g/\w.heap.size<=g
 s:∀ y∈V0,y∈V
 e:∀ y∈V0,fw (zO a ts) tf V y=fw (zO a ts) tf V0 y
inductive FieldsPost(w:World)(mb:Nat)(cells a tf:Int)(ts:List Th)(rs:List Cl)(fv tv0:Value)(V0:List Int):Ending->World->Prop
 | mk (w':World) (tv:Value) (V:List Int) (h:FS w mb cells a tf ts rs fv tv0 V0 w' tv V (raw (zO a ts) V).length):FieldsPost w mb cells a tf ts rs fv tv0 V0 (.returned (.tuple #[])) w'
theorem zoe(w:World)(mb:Nat)(cells a tf:Int)(ts:List Th)(rs:List Cl)(fv tv0:Value)(V0:List Int)(hc:zdn a ts)(h:Mvg w mb cells a tf ts rs fv tv0 V0 0) :
  Calls Tryz.prog 135 #[.pointer (some ⟨mb,0,none⟩)] w fun e w'=>FieldsPost w mb cells a tf ts rs fv tv0 V0 e w':=by
 have H0:Hid (FS w mb cells a tf ts rs fv tv0 V0 w tv0 V0 0):=⟨h,Kp.refl _ _,Or.inl rfl,fun _ h=>h,fun _ _=>rfl⟩
 have Hc:=zh hc
 have htot:=h.small
 clear h hc
 go_enter Tryz.func135,Tryz.ntmps135
 go_wp2_with fail
 go_loopg [2] 1000000 (fun g iv wr=>∃ (i:Nat) (V:List Int) (tv:Value),iv=.int .i64 (i:Nat)/\i<=1000000/\g=1000000 - i/\Hid (FS w mb cells a tf ts rs fv tv0 V0 wr tv V i))
 case atStart=>exact⟨0,V0,tv0,rfl,by omega,by omega,H0.o⟩
 case round=>
  obtain⟨i,V,tv,rfl,hi1,rfl,HL⟩:=hrel
  have hsl:(scan (zO a ts) tf V i).length=(raw (zO a ts) V).length:=zdq _ _ _ _
  have hrl:(raw (zO a ts) V).length<=1000000:=by
   have:=zeo HL.o.m.nd HL.o.m.there
   rw[zev]
   omega
  by_cases hi:i < (raw (zO a ts) V).length
  ·obtain⟨y,hy⟩:∃ y,(raw (zO a ts) V)[i]? = some y:=⟨_,gE hi⟩
   have hye:(raw (zO a ts) V)[i]'hi=y:=by rw[gE hi] at hy;exact Option.some.inj hy
   have hsy:=(zl2 _ tf V i hi).trans hy
   obtain⟨g,cap,rfl,hcap,hwd,hgl,hgf,c5,hml⟩:=HL.o.m.mem.toRow hsy
   obtain⟨d0,d1,d2,d3,d4⟩:=hwd
   rw[Nat.zero_add] at d0 d1 d2 d3 d4
   have hlt:((i:Int) < ((scan (zO a ts) tf V i).length:Nat)):=by rw[hsl];omega
   have hwi:=wr64s i hi1
   have Hk1:Hid (Kp [] wr (wr.alloc (.cells #[.int .i64 y.n,.int .i32 y.moved,.int .u16 y.tag,.int .u8 y.kind,.int .u8 y.part] 186))):=Kp.alloc [] wr _
   have Hbx:Hid ((wr.alloc (.cells #[.int .i64 y.n,.int .i32 y.moved,.int .u16 y.tag,.int .u8 y.kind,.int .u8 y.part] 186)).heap[wr.heap.size]? = some (.cells #[.int .i64 y.n,.int .i32 y.moved,.int .u16 y.tag,.int .u8 y.kind,.int .u8 y.part] 186)):=zab wr _
   have HN:=zh hsl
   clear hsl H0
   obtain⟨N,hN⟩:∃ N,N=(scan (zO a ts) tf V i).length:=⟨_,rfl⟩
   rw[<-hN] at hlt c5 hcap
   have HN2:=zh hN
   rw[<-hN] at HL
   clear hN
   go_upto_region 4 with fail
   clear d0 d1 d2 d3 d4 c5 hlt hcap hgl hgf hml
   generalize wr.alloc (.cells #[.int .i64 y.n,.int .i32 y.moved,.int .u16 y.tag,.int .u8 y.kind,.int .u8 y.part] 186)=w1 at *
   have hb4:w1.cell? ⟨wr.heap.size,4,none⟩=some (.int .u8 y.part):=by simp only[World.cell?,Hbx.o];rfl
   have hb0:w1.cell? ⟨wr.heap.size,0,none⟩=some (.int .i64 y.n):=by simp only[World.cell?,Hbx.o];rfl
   have hbl:=(sz Hbx.o)
   by_cases hp:y.part=1
   ·obtain⟨z,hz,hf⟩:=zvl (hye ▸ List.getElem_mem hi:y∈raw (zO a ts) V) hp
    obtain⟨tz,htz⟩:=Option.isSome_iff_exists.1 (HL.o.m.there z hz)
    have hthz:thP (zO a ts) z=tz:=by unfold thP;rw[htz];rfl
    rw[hthz] at hf
    have hxs:=Hc.o tz (zg3 htz) y.n hf
    have Hcall:Hid _:=zmf w1 mb cells a tf ts rs fv (.slice (some ⟨g,0,none⟩) N cap) V i (HL.o.m.kp Hk1.o (by simp) (by simp) (by simp)) y.n hxs (Reach.field z y.n tz (HL.o.m.rch z hz) htz hf)
    have hp1:(y.part == 1)=true:=by simpa using hp
    clear hf hthz hxs hz htz
    go_wp2_with fail
    refine cM Hcall.o ?_
    rintro e w2 ⟨V',tv',w2,hg,hm,hk,hfr⟩
    have hgl:g < wr.heap.size:=HL.o.m.mem.town.lt rfl
    have hmbl:mb < wr.heap.size:=(sz HL.o.m.mem.box)
    have hfl:=fun k (hk:fv.ownBlock=some k)=>HL.o.m.mem.fown.lt hk
    have hnb:wr.heap.size∉[mb]++fv.ownBlock.toList++(Value.ownBlock (.slice (some ⟨g,0,none⟩) N cap)).toList:=by
     simp[Value.ownBlock]
     exact⟨by omega,fun e=>by have:=hfl _ e;omega,by omega⟩
    have hbx2:w2.heap[wr.heap.size]? = _:=(hk.block _ hbl hnb).trans Hbx.o
    have hbl2:=(sz hbx2)
    have e0:w2.cell? ⟨wr.heap.size,0,none⟩=some (.int .i64 y.n):=by simp only[World.cell?,hbx2];rfl
    have e1:w2.frozen? ⟨wr.heap.size,0,none⟩=false:=by simp only[World.frozen?,hbx2];rfl
    have hbx3:(w2.setCell ⟨wr.heap.size,0,none⟩ (.int .i64 (fw (zO a ts) tf V' y.n))).heap[wr.heap.size]? = some (.cells #[.int .i64 (fw (zO a ts) tf V' y.n),.int .i32 y.moved,.int .u16 y.tag,.int .u8 y.kind,.int .u8 y.part] 186):=by
     simp[World.setCell,Array.getElem?_modify,hbx2]
    have hk3:Kp [wr.heap.size] w2 (w2.setCell ⟨wr.heap.size,0,none⟩ (.int .i64 (fw (zO a ts) tf V' y.n))):=Kp.setCell _ _ (by simp) _
    have htvl:∀ k,tv'.ownBlock=some k->k≠wr.heap.size:=fun k hk2 e=>by
     rcases hfr with hfr | ⟨g2,hg2,hg3⟩
     ·rw[hfr] at hk2
      simp[Value.ownBlock] at hk2
      omega
     ·rw[hg2] at hk2
      cases hk2
      omega
    have hm3:=hm.kp hk3 (by simp;omega) (fun k hk2=>by simp;have:=hfl k hk2;omega) (fun k hk2=>by simp;exact htvl k hk2)
    have HK3:Hid _:=((Hk1.o.mono (by simp)).trans hk).then hk3 (by simp)
    have Hfr:Hid (tv'.ownBlock=some g\/∃ g2,tv'.ownBlock=some g2/\wr.heap.size<=g2):=by
     rcases hfr with hfr | ⟨g2,hg2,hg3⟩
     ·exact Or.inl hfr
     ·exact Or.inr ⟨g2,hg2,Nat.le_trans (Hk1.o.size) hg3⟩
    have hi':i < (raw (zO a ts) V').length:=by
     cases hg with
     | same _=>exact hi
     | more _=>rw[ze7,lA];omega
    have hye':(raw (zO a ts) V')[i]'hi'=y:=by
     cases hg with
     | same _=>exact hye
     | more _=>
      have:(raw (zO a ts) (V++[y.n]))[i]? = some y:=by rw[ze7,List.getElem?_append_left hi];exact hy
      rw[gE hi'] at this
      exact Option.some.inj this
    have hsy':(scan (zO a ts) tf V' i)[i]? = some y:=by rw[zl2 _ tf V' i hi',gE hi',hye']
    have Hg:=zh hg
    have Hye':Hid (_=y):=hye'
    have Hsl':Hid ((scan (zO a ts) tf V' i).length=(raw (zO a ts) V').length):=zdq _ _ _ _
    clear hye' hg hk hm hfr Hcall hbx2 hbl2 hnb hb4 hb0 hbl hfl htvl hsy hye hy
    go_upto_region 6 with fail
    generalize w2.setCell ⟨wr.heap.size,0,none⟩ (.int .i64 (fw (zO a ts) tf V' y.n))=w3 at *
    clear e0 e1 hk3
    obtain⟨g',cap',rfl,hcap,hwd,hgl',hgf,c5,hml⟩:=hm3.mem.toRow hsy'
    obtain⟨d0,d1,d2,d3,d4⟩:=hwd
    rw[Nat.zero_add] at d0 d1 d2 d3 d4
    have b0:w3.cell? ⟨wr.heap.size,0,none⟩=some (.int .i64 (fw (zO a ts) tf V' y.n)):=by simp only[World.cell?,hbx3];rfl
    have b1:w3.cell? ⟨wr.heap.size,1,none⟩=some (.int .i32 y.moved):=by simp only[World.cell?,hbx3];rfl
    have b2:w3.cell? ⟨wr.heap.size,2,none⟩=some (.int .u16 y.tag):=by simp only[World.cell?,hbx3];rfl
    have b3:w3.cell? ⟨wr.heap.size,3,none⟩=some (.int .u8 y.kind):=by simp only[World.cell?,hbx3];rfl
    have b4:w3.cell? ⟨wr.heap.size,4,none⟩=some (.int .u8 y.part):=by simp only[World.cell?,hbx3];rfl
    have b5:=(sz hbx3)
    have hil:i < (scan (zO a ts) tf V' i).length:=by rw[Hsl'.o];exact hi'
    have hmv:mvW (fw (zO a ts) tf V') y=⟨fw (zO a ts) tf V' y.n,y.moved,y.tag,y.kind,1⟩:=by unfold mvW;rw[if_pos hp,<-hp]
    have hset:=hm3.mem.setTo (g:=g') rfl i hil ⟨fw (zO a ts) tf V' y.n,y.moved,y.tag,y.kind,1⟩
    rw[<-hmv,<-Hye'.o,<-zjf _ tf V' i hi',Hye'.o,hmv] at hset
    have hKf:Kp [g'] w3 (put5 w3 g' (i * 5) ⟨fw (zO a ts) tf V' y.n,y.moved,y.tag,y.kind,1⟩):=zia _ _ _ _
    have Q:Hid (FS w mb cells a tf ts rs fv tv0 V0 (put5 w3 g' (i * 5) ⟨fw (zO a ts) tf V' y.n,y.moved,y.tag,y.kind,1⟩).drew (.slice (some ⟨g',0,none⟩) (scan (zO a ts) tf V' i).length cap') V' (i+1)):=by
     have hsz:=HL.o.k.size
     have hg1:∀ k,k=g\/wr.heap.size<=k->k∈[mb]++fv.ownBlock.toList++tv0.ownBlock.toList\/w.heap.size<=k:=fun k hk=>by
      rcases hk with rfl | hk
      ·rcases HL.o.f with hf | ⟨g2,hg2,hg3⟩
       ·exact Or.inl (by rw[<-hf];simp[Value.ownBlock])
       ·simp[Value.ownBlock] at hg2
        subst hg2
        exact Or.inr hg3
      ·exact Or.inr (by omega)
     have hg2:g'=g\/wr.heap.size<=g':=by
      rcases Hfr.o with hf | ⟨g2,hg2,hg3⟩
      ·simp[Value.ownBlock] at hf
       exact Or.inl hf
      ·simp[Value.ownBlock] at hg2
       subst hg2
       exact Or.inr hg3
     refine⟨(Mvg.mk hset hm3.nd hm3.there hm3.rch (hm3.sn.next hi' (fun _=>by rw[Hye'.o];exact Hg.o.has)) hi').kp (kr.drew) (by simp) (by simp) (by simp),?_,?_,fun y hy=>Hg.o.sub y (HL.o.s y hy),fun y hy=>(Hg.o.same_fw _ tf y (HL.o.s y hy)).trans (HL.o.e y hy)⟩
     ·refine(((HL.o.k.then HK3.o ?_).then hKf ?_)).drew
      ·intro k hk
       simp[Value.ownBlock] at hk
       rcases hk with hk | hk | hk
       ·exact Or.inl (by simp[hk])
       ·exact Or.inl (by simp;exact Or.inr (Or.inl hk))
       ·exact hg1 k (Or.inl hk)
      ·intro k hk
       simp at hk
       subst hk
       exact hg1 k hg2
     ·rcases hg2 with e | e
      ·rcases HL.o.f with hf | ⟨g2,hg3,hg4⟩
       ·exact Or.inl (by rw[<-hf,e];rfl)
       ·simp[Value.ownBlock] at hg3
        exact Or.inr ⟨g',rfl,by omega⟩
      ·exact Or.inr ⟨g',rfl,by omega⟩
    have f0:=hgf (i * 5)
    have f1:=hgf (i * 5+1)
    have f2:=hgf (i * 5+2)
    have f3:=hgf (i * 5+3)
    have f4:=hgf (i * 5+4)
    have hlt2:(i:Int) < ((scan (zO a ts) tf V' i).length:Nat):=by omega
    have HV:Hid _:=hi'
    clear hKf hset hmv hil HK3 Hfr hm3 Hg Hye' Hsl' hsy' HL HN HN2 Hk1 Hbx hgf hbx3 Hc hgl hmbl
    unfold put5 at Q
    simp only at Q
    obtain⟨N',hN'⟩:∃ N',N'=(scan (zO a ts) tf V' i).length:=⟨_,rfl⟩
    obtain⟨F,hF⟩:∃ F,F=fw (zO a ts) tf V' y.n:=⟨_,rfl⟩
    rw[<-hN'] at hlt2 c5 hcap Q
    rw[<-hF] at b0 Q ⊢
    clear hN' hF hi'
    have D0:w3.drew.cell? ⟨g',i * 5,none⟩=some (.int .i64 y.n):=d0
    have D1:w3.drew.cell? ⟨g',i * 5+1,none⟩=some (.int .i32 y.moved):=d1
    have D2:w3.drew.cell? ⟨g',i * 5+2,none⟩=some (.int .u16 y.tag):=d2
    have D3:w3.drew.cell? ⟨g',i * 5+3,none⟩=some (.int .u8 y.kind):=d3
    have D4:w3.drew.cell? ⟨g',i * 5+4,none⟩=some (.int .u8 y.part):=d4
    have B0:w3.drew.cell? ⟨wr.heap.size,0,none⟩=some (.int .i64 F):=b0
    have B1:w3.drew.cell? ⟨wr.heap.size,1,none⟩=some (.int .i32 y.moved):=b1
    have B2:w3.drew.cell? ⟨wr.heap.size,2,none⟩=some (.int .u16 y.tag):=b2
    have B3:w3.drew.cell? ⟨wr.heap.size,3,none⟩=some (.int .u8 y.kind):=b3
    have B4:w3.drew.cell? ⟨wr.heap.size,4,none⟩=some (.int .u8 y.part):=b4
    have C5:w3.drew.cell? ⟨mb,5,none⟩=some (.slice (some ⟨g',0,none⟩) N' cap'):=c5
    go_region
    generalize (((((w3.setCell ⟨g',i * 5,none⟩ (.int .i64 F)).setCell ⟨g',i * 5+1,none⟩ (.int .i32 y.moved)).setCell ⟨g',i * 5+2,none⟩ (.int .u16 y.tag)).setCell ⟨g',i * 5+3,none⟩ (.int .u8 y.kind)).setCell ⟨g',i * 5+4,none⟩ (.int .u8 1)).drew=w4 at *
    clear d0 d1 d2 d3 d4 b0 b1 b2 b3 b4 b5 f0 f1 f2 f3 f4 c5 D0 D1 D2 D3 D4 B0 B1 B2 B3 B4 C5
    go_wp2
    go_roundg (1000000 - (i+1))
    case measure=>omega
    case rel=>exact⟨i+1,V',_,by first | rfl | (congr 1;omega) | go_num,by omega,rfl,Q.o⟩
   ·have hp1:(y.part == 1)=false:=by simpa using hp
    have hsc:scan (zO a ts) tf V (i+1)=scan (zO a ts) tf V i:=by
     rw[zjf _ tf V i hi,hye]
     have:mvW (fw (zO a ts) tf V) y=y:=by unfold mvW;rw[if_neg hp]
     rw[this]
     obtain⟨hl2,he2⟩:=List.getElem?_eq_some_iff.1 hsy
     rw[<-he2,List.set_getElem_self]
    have Q:Hid (FS w mb cells a tf ts rs fv tv0 V0 w1 (.slice (some ⟨g,0,none⟩) N cap) V (i+1)):=by
     have hm:=HL.o.m.kp Hk1.o (by simp) (by simp) (by simp)
     exact⟨⟨by rw[hsc];exact hm.mem,hm.nd,hm.there,hm.rch,hm.sn.next hi (fun h=>absurd (hye ▸ h) hp),hi⟩,HL.o.k.trans (Hk1.o.mono (by simp)),HL.o.f,HL.o.s,HL.o.e⟩
    clear hsc Hk1 Hbx HN HN2 HL hsy hye hy hp Hc
    go_wp2
    go_roundg (1000000 - (i+1))
    case measure=>omega
    case rel=>exact⟨i+1,V,_,by first | rfl | (congr 1;omega) | go_num,by omega,rfl,Q.o⟩
  ·have hie:i=(raw (zO a ts) V).length:=by have:=HL.o.m.le;omega
   obtain⟨q,cap,rfl,c5,hl⟩:=HL.o.m.mem.toCell
   have hn:¬ ((i:Int) < ((scan (zO a ts) tf V i).length:Nat)):=by rw[hsl];omega
   have Q:Hid _:=FieldsPost.mk wr _ V (hie ▸ HL.o)
   clear hsl hrl hie HL H0
   generalize (scan (zO a ts) tf V i).length=N at *
   go_wp2_with fail
   go_end0
   exact Q.o
end Go.Proofs.YtkcmachfagcnaaaGreatDoor
namespace Go.Proofs.YtkcmachfagcnaaaGreatDoor
open Go.RowKit Go.Deep
theorem Kp.putObj{X:List Nat}(w:World)(k:Nat)(hk:k∈X)(o:Obj):Kp X w (w.putObj k o):=
 ⟨rfl,rfl,rfl,by simp,fun j _ hj=>World.putObj_heap_other (fun e=>hj (e ▸ hk))⟩
structure Bk(B:Nat)(W W':World):Prop where
 kept:∀ k o,B<=k->o.isCells=false->W.heap[k]? = some o->W'.heap[k]? = some o
theorem zk7{P:Program}{n:Nat}{g:Operand}{p:Tmp}{assign body:Code}{Q:Exit->Act->World->Prop}{a:Act}{w:World}{gf:Nat}{fa:Array Value}(hg:a.eval g=.func (.func gf) fa #[])(eg:∀ args w,(callFunc gf args).run P w=.ok (.enter gf args) w)
  (N:Nat) (enc:Nat->Value) (I:Nat->World->Prop) (A1:Nat->Act)
  (h0:∀ W,Kp [] w W->I 0 W) (hI:∀ i W W' k,w.heap.size<=k->(∃ o:Obj,W.heap[k]? = some o/\o.isCells=false)->Kp [k] W W'->I i W->I i W')
  (hiter:∀ (l:Nat) (J:Nat->World->Prop) (W:World),(∀ i W,J i W->I i W)->(∀ i W,J i W->J i W.drew)->(∀ i W,i < N->J i W->YieldAt Fence.wide (n - 1 - 1) P l #[enc i] W fun e W'=>e=.returned (.bool true)/\J (i+1) W')->J 0 W->
   CallsIn Fence.wide (n - 1) P gf (fa++#[.func (.yield l) #[] #[]]) W fun e W'=>(∃ v,e=.returned v)/\J N W')
  (hassign:∀ (l i:Nat) (W:World) (K:Act->World->Prop),K (A1 i) W->assign.wpIn (Fence.wide.inRound l) (n - 1 - 1) P (Exit.then K (fun _ _ _=>False)) {tmps:=a.tmps.setIfInBounds p (enc i),defers:=[]} W)
  (hbody:∀ (l i:Nat) (W:World),w.heap.size<=l->i < N->I i W->(∃ r,W.heap[l]? = some (.loop r))->body.wpIn (Fence.wide.inRound l) (n - 1 - 1) P (fun e _ W'=>e=.normal/\I (i+1) W'/\Bk w.heap.size W W') (A1 i) W)
  (hdone:∀ (D:Nat) (W:World),w.heap.size<=D->I N W->W.heap[D]? = some (.deferred (some []))->Q .normal {a with defers:={target:=.collected D,args:=#[]} :: a.defers} W) :
  (Code.rangeFunc g #[p] assign body).wpIn Fence.wide n P Q a w:=by
 refine wpIn_rangeFunc ?_
 intro fn hfn
 have hent:=run_enterLoop_outer (P:=P) (w:=w) fn a.tmps #[p] assign body
 obtain⟨rd,hrd⟩:∃ rd:LoopState->Loop,rd=fun st=>{state:=st,pending:=none,fn:=fn,tmps:=a.tmps,params:=#[p],assign:=assign,body:=body,defers:=w.heap.size}:=⟨_,rfl⟩
 have hdef:∀ st,rd st={state:=st,pending:=none,fn:=fn,tmps:=a.tmps,params:=#[p],assign:=assign,body:=body,defers:=w.heap.size}:=fun st=>by rw[hrd]
 have hK1:Kp [] w ((w.alloc (.deferred (some []))).alloc (.loop (rd .ready))):=(Kp.alloc _ _ _).trans (Kp.alloc _ _ _)
 have hL1:((w.alloc (.deferred (some []))).alloc (.loop (rd .ready))).heap[w.heap.size+1]? = some (.loop (rd .ready)):=by
  have:=zab (w.alloc (.deferred (some []))) (.loop (rd .ready))
  rwa [World.size_alloc] at this
 have hD1:((w.alloc (.deferred (some []))).alloc (.loop (rd .ready))).heap[w.heap.size]? = some (.deferred (some [])):=(Below.heap_alloc _ _ _ (by simp)).trans (zab w _)
 rw[<-hdef .ready] at hent
 generalize (w.alloc _).alloc _=W1 at *
 refine⟨w.heap.size+1,[{target:=.collected w.heap.size,args:=#[]}],W1,{target:=.fn (.func gf) #[],args:=fa++#[.func (.yield (w.heap.size+1)) #[] #[]]},W1,gf,fa++#[.func (.yield (w.heap.size+1)) #[] #[]],W1,hent,?_,fun _ _=>trivial,?_,by simp[Fence.wide],?_⟩
 ·simp only[resolve,hg]
  simp[go_sem]
 ·simp[invoke,go_sem,eg]
 ·have key:=hiter (w.heap.size+1) (fun i W=>I i W/\W.heap[w.heap.size+1]? = some (.loop (rd .ready))/\W.heap[w.heap.size]? = some (.deferred (some []))) W1 (fun i W h=>h.1) (fun i W h=>⟨hI i W _ (w.heap.size+1) (by omega) ⟨_,h.2.1,rfl⟩ ((Kp.refl _ _).drew) h.1,h.2.1,h.2.2⟩) ?_ ⟨h0 W1 hK1,hL1,hD1⟩
  ·refine key.mono ?_
   rintro e W2 ⟨⟨v,rfl⟩,hi,hl,hd⟩
   have hend:=run_endLoop (P:=P) hl (by rw[hdef];simp)
   refine⟨none,_,by rw[hend,hdef],?_⟩
   refine hdone w.heap.size _ (Nat.le_refl _) (hI _ W2 _ (w.heap.size+1) (by omega) ⟨_,hl,rfl⟩ (Kp.putObj _ _ (by simp) _) hi) ?_
   rw[World.putObj_heap_other (by omega)]
   exact hd
  ·rintro i W hiN ⟨hi,hl,hd⟩
   have hlt:=(sz hl)
   have hy:=run_yield (P:=P) (args:=#[enc i]) hl (by rw[hdef];rfl)
   have hz:((rd .ready).params.zip #[enc i]).foldl (fun tmps (x:Tmp×Value)=>tmps.setIfInBounds x.1 x.2) (rd .ready).tmps=a.tmps.setIfInBounds p (enc i):=by rw[hdef];simp
   have ha:(rd .ready).assign=assign:=by rw[hdef]
   have hbo:(rd .ready).body=body:=by rw[hdef]
   refine⟨_,_,_,_,hy,roundIn_of_wpIn (by trivial) ?_⟩
   rw[ha,hbo]
   show assign.wpIn _ _ P _ {tmps:=((rd .ready).params.zip #[enc i]).foldl (fun tmps (x:Tmp×Value)=>tmps.setIfInBounds x.1 x.2) (rd .ready).tmps,defers:=[]} W
   rw[hz]
   have hb2:(W.putObj (w.heap.size+1) (.loop (rd .busy))).heap[w.heap.size+1]? = some (.loop (rd .busy)):=World.putObj_heap_same hlt
   refine hassign (w.heap.size+1) i W _ ⟨_,run_beginRound hl (by rw[hdef]),?_⟩
   have he:({rd LoopState.ready with state:=LoopState.busy} : Loop)=rd .busy:=by rw[hdef,hdef]
   rw[he]
   refine wpIn_mono (hbody (w.heap.size+1) i _ (by omega) hiN (hI i W _ (w.heap.size+1) (by omega) ⟨_,hl,rfl⟩ (Kp.putObj _ _ (by simp) _) hi) ⟨_,hb2⟩) ?_
   rintro e a3 W3 ⟨rfl,hi3,hk3⟩
   have hl3:=hk3.kept _ _ (by omega) rfl hb2
   have hd3:=hk3.kept _ _ (Nat.le_refl _) rfl ((World.putObj_heap_other (by omega)).trans hd)
   have hlt3:=(sz hl3)
   refine⟨_,_,run_endRound (P:=P) none hl3,rfl,hI _ W3 _ (w.heap.size+1) (by omega) ⟨_,hl3,rfl⟩ (Kp.putObj _ _ (by simp) _) hi3,?_,?_⟩
   ·rw[World.putObj_heap_same hlt3]
    simp[hdef]
   ·rw[World.putObj_heap_other (by omega)]
    exact hd3
structure Sp where
 b:Nat
 o:Nat
structure RW(w0:World)(S:List Sp)(W:World)(cs:List Cl):Prop where
 len:cs.length=S.length
 get:∀ i (hi:i < S.length) (hc:i < cs.length),W.cell? ⟨(S[i]'hi).b,(S[i]'hi).o,none⟩=some (.bool (cs[i]'hc).p)/\W.cell? ⟨(S[i]'hi).b,(S[i]'hi).o+1,none⟩=some (.int .i64 (cs[i]'hc).n)
 apart:∀ i j (hi:i < S.length) (hj:j < S.length),i≠j->(S[i]'hi).b=(S[j]'hj).b->(S[i]'hi).o+1 < (S[j]'hj).o\/(S[j]'hj).o+1 < (S[i]'hi).o
 ty:∀ s∈S,∃ cur t,w0.heap[s.b]? = some (.cells cur t)/\(t=67\/t=69)
 fr:∀ x cur t,x∈S.map Sp.b->w0.heap[x]? = some (.cells cur t)->∃ cur':Array Value,W.heap[x]? = some (.cells cur' t)/\cur'.size=cur.size/\∀ j,(∀ s∈S,s.b=x->j≠s.o+1)->cur'[j]? = cur[j]?
section
variable{w0:World}{S:List Sp}{W:World}{cs:List Cl}
theorem RW.obj(h:RW w0 S W cs){x:Nat}(hx:x∈S.map Sp.b):∃ cur t,W.heap[x]? = some (.cells cur t)/\(t=67\/t=69):=by
 obtain⟨s,hs,rfl⟩:=List.mem_map.1 hx
 obtain⟨cur,t,h1,h2⟩:=h.ty s hs
 obtain⟨cur',h3,_⟩:=h.fr s.b cur t hx h1
 exact⟨cur',t,h3,h2⟩
theorem RW.lt(h:RW w0 S W cs){x:Nat}(hx:x∈S.map Sp.b):x < W.heap.size:=by
 obtain⟨cur,t,h1,_⟩:=h.obj hx
 exact(sz h1)
theorem RW.ne(h:RW w0 S W cs){c:Nat}{o:Obj}(hc:W.heap[c]? = some o)(ho:∀ a t,o=.cells a t->t≠67/\t≠69):c∉S.map Sp.b:=fun hx=>by
 obtain⟨cur,t,h1,h2⟩:=h.obj hx
 rw[hc] at h1
 obtain⟨k1,k2⟩:=ho cur t (Option.some.inj h1)
 rcases h2 with h2 | h2
 ·exact k1 h2
 ·exact k2 h2
theorem RW.frozen(h:RW w0 S W cs){x:Nat}(hx:x∈S.map Sp.b)(o:Nat):W.frozen? ⟨x,o,none⟩=false:=by
 obtain⟨cur,t,h1,_⟩:=h.obj hx
 simp[World.frozen?,h1]
theorem RW.keep(h:RW w0 S W cs){W':World}(hk:∀ x∈S.map Sp.b,W'.heap[x]? = W.heap[x]?):RW w0 S W' cs:=by
 refine⟨h.len,fun i hi hc=>?_,h.apart,h.ty,fun x cur t hx hc=>?_⟩
 ·have hb:=hk _ (List.mem_map_of_mem (f:=Sp.b) (List.getElem_mem hi))
  obtain⟨k1,k2⟩:=h.get i hi hc
  exact⟨(World.cell?_of_block (w:=W) hb).trans k1,(World.cell?_of_block (w:=W) hb).trans k2⟩
 ·obtain⟨cur',k1,k2⟩:=h.fr x cur t hx hc
  exact⟨cur',(hk x hx).trans k1,k2⟩
theorem RW.kp(h:RW w0 S W cs){X:List Nat}{W':World}(hk:Kp X W W')(hX:∀ x∈S.map Sp.b,x∉X):RW w0 S W' cs:=h.keep (fun x hx=>hk.block x (h.lt hx) (hX x hx))
theorem RW.rebase(h:RW w0 S W cs){w1:World}(hk:∀ x∈S.map Sp.b,w0.heap[x]? = w1.heap[x]?):RW w1 S W cs:=
 ⟨h.len,h.get,h.apart,fun s hs=>by
  obtain⟨cur,t,h1,h2⟩:=h.ty s hs
  exact⟨cur,t,(hk s.b (List.mem_map_of_mem hs)).symm.trans h1,h2⟩,fun x cur t hx hc=>h.fr x cur t hx ((hk x hx).trans hc)⟩
theorem RW.setN(h:RW w0 S W cs)(i:Nat)(hi:i < S.length)(hc:i < cs.length)(m:Int):RW w0 S (W.setCell ⟨(S[i]'hi).b,(S[i]'hi).o+1,none⟩ (.int .i64 m)) (cs.set i ⟨(cs[i]'hc).p,m⟩):=by
 refine⟨by rw[List.length_set];exact h.len,fun j hj hcj=>?_,h.apart,h.ty,fun x cur t hx hcx=>?_⟩
 ·have hcj':j < cs.length:=by simpa using hcj
  obtain⟨k1,k2⟩:=h.get j hj hcj'
  by_cases e:i=j
  ·subst e
   rw[List.getElem_set_self]
   refine⟨?_,?_⟩
   ·rw[World.cell?_setCell_other _ _ _ _ (fun e=>by simp at e)]
    exact k1
   ·exact World.cell?_setCell_same' _ _ _ (by rw[k2];rfl)
  ·rw[List.getElem_set_ne e]
   have hne:∀ o,o=(S[j]'hj).o\/o=(S[j]'hj).o+1->(⟨(S[i]'hi).b,(S[i]'hi).o+1,none⟩:Addr)≠⟨(S[j]'hj).b,o,none⟩:=fun o ho e2=>by
    simp only[Addr.mk.injEq,and_true] at e2
    have:=h.apart i j hi hj e e2.1
    omega
   exact⟨(World.cell?_setCell_other _ _ _ _ (hne _ (Or.inl rfl))).trans k1,(World.cell?_setCell_other _ _ _ _ (hne _ (Or.inr rfl))).trans k2⟩
 ·obtain⟨cur',k1,k2,k3⟩:=h.fr x cur t hx hcx
  by_cases e:x=(S[i]'hi).b
  ·subst e
   refine⟨cur'.setIfInBounds ((S[i]'hi).o+1) (.int .i64 m),by simp[World.setCell,Array.getElem?_modify,k1],by simpa using k2,fun j hj=>?_⟩
   have:=hj (S[i]'hi) (List.getElem_mem hi) rfl
   rw[Array.getElem?_setIfInBounds_ne (by omega)]
   exact k3 j hj
  ·exact⟨cur',(Below.heap_setCell _ _ _ _ (fun e2=>e e2)).trans k1,k2,k3⟩
end
def zif(ops:Array Oper):Bool:=ops.all fun o=>match o.op with
 | .defer _=>false
 | _=>true
theorem zjp{ops:Array Oper}(h:zif ops=true){i:Nat}{o:Oper}(hi:ops[i]? = some o):∀ c,o.op≠.defer c:=by
 intro c hc
 unfold zif at h
 rw[Array.all_eq_true] at h
 obtain⟨hlt,he⟩:=Array.getElem?_eq_some_iff.1 hi
 have:=h i hlt
 rw[he,hc] at this
 cases this
theorem zsy{r n:Nat}{P:Program}{o:Oper}{a:Act}{w:World}{K:Act->World->Prop}{Q:Exit->Act->World->Prop}(hd:∀ c,o.op≠.defer c)(h:o.wp P a w K Q):o.wpIn (Fence.wide.inRound r) n P a w K Q:=by
 refine⟨fun _ _=>trivial,?_⟩
 rw[Oper.semAt_eq _ _ _ hd]
 unfold Oper.wp at h
 generalize (execOp a.eval o).run P w=res at h
 cases res with
 | ok x w'=>
  cases x with
  | enter f args=>exact⟨(fun h0=>by cases h0),CallsIn.inRound r (callsIn_wide.2 h)⟩
  | row row args=>exact⟨(fun h0=>by cases h0),fun c cs _=>let ⟨v,w1,q,s⟩:=h c cs;⟨v,w1,q,stepsIn_wide.2 s⟩⟩
  | round l f tmps assign body=>exact h.elim
  | _=>exact h
 | halt x w'=>cases x <;> exact h
theorem zkb{r n:Nat}{P:Program}{md:Region.Mode}{ops:Array Oper}{Q:Exit->Act->World->Prop}(hd:zif ops=true)(hL:¬ LetsOut Q):∀ (fuel:Nat) (listed:Array Bool) (a:Act) (w:World),wpAny P md ops Q fuel listed a w->wpAnyIn (Fence.wide.inRound r) n P md ops Q fuel listed a w
 | 0,_,_,_,h=>h
 | fuel+1,listed,a,w,h=>⟨h.1,fun i hi=>by
  have hh:=wpOp_mono (fun a' w' h'=>zkb (r:=r) (n:=n) hd hL fuel _ a' w' h') (h.2 i hi)
  unfold wpOp at hh
  unfold wpOpIn
  cases ho:ops[i]? with
  | none=>simpa [ho] using hh
  | some o=>
   simp only[ho] at hh ⊢
   split
   ·rename_i hw
    rw[if_pos hw] at hh
    rcases hh with hh | hh
    ·exact zsy (zjp hd ho) hh
    ·exact absurd hh.2 hL
   ·rename_i hw
    rw[if_neg hw] at hh
    exact⟨fun _ _=>trivial,hh⟩⟩
theorem zh9{r n:Nat}{P:Program}{Q:Exit->Act->World->Prop}{C:World->Prop}{m:Nat}{id:Nat}{a:Act}{w:World}{l:List Oper}(hm:P.follows .mixedOrders=true)(hd:zif l.toArray=true)(hL:¬ LetsOut Q)(h:anyL P .any l.toArray Q C m l.length (Array.replicate l.length false) a w.drew):(Code.region id l.toArray true).wpIn (Fence.wide.inRound r) n P Q a w:=by
 refine wpIn_region_any hm ?_
 have:=zkb (r:=r) (n:=n) hd hL _ _ _ _ (zi0 _ _ _ _ h)
 simpa using this
def rmap(P:Doc)(tf:Int)(V:List Int)(rs:List Cl)(i:Nat):List Cl:=(rs.take i).map (mvC (fw P tf V))++rs.drop i
theorem zl5(P:Doc)(tf:Int)(V:List Int)(rs:List Cl)(i:Nat):(rmap P tf V rs i).length=rs.length:=by
 simp[rmap]
 omega
theorem zpf(P:Doc)(tf:Int)(V:List Int)(rs:List Cl):rmap P tf V rs 0=rs:=by simp[rmap]
theorem zsp(P:Doc)(tf:Int)(V:List Int)(rs:List Cl):rmap P tf V rs rs.length=rs.map (mvC (fw P tf V)):=by simp[rmap]
theorem zso(P:Doc)(tf:Int)(V:List Int)(rs:List Cl)(i:Nat)(hi:i < rs.length):(rmap P tf V rs i)[i]? = some (rs[i]'hi):=by
 unfold rmap
 rw[List.getElem?_append_right (by simp;omega)]
 simp
 rw[show i+(i - min i rs.length)=i by omega,gE hi]
theorem zjg(P:Doc)(tf:Int)(V:List Int)(rs:List Cl)(i:Nat)(hi:i < rs.length):rmap P tf V rs (i+1)=(rmap P tf V rs i).set i (mvC (fw P tf V) (rs[i]'hi)):=by
 unfold rmap
 have h1:((rs.take i).map (mvC (fw P tf V))).length=i:=by simp;omega
 have h2:rs.take (i+1)=rs.take i++[rs[i]'hi]:=by rw[List.take_add_one,gE hi];rfl
 rw[List.set_append_right _ _ (by omega),h1,Nat.sub_self,h2,List.map_append,List.append_assoc,List.drop_eq_getElem_cons hi]
 rfl
theorem zpg{P:Doc}(tf:Int){V V':List Int}{x:Int}(hg:Grow V x V')(rs:List Cl)(i:Nat)(hs:∀ y,⟨true,y⟩∈rs.take i->y∈V):rmap P tf V' rs i=rmap P tf V rs i:=by
 unfold rmap
 congr 1
 refine List.map_congr_left (fun c hc=>?_)
 obtain⟨p,n⟩:=c
 cases p
 ·rfl
 ·unfold mvC
  simp only[if_pos]
  rw[hg.same_fw P tf n (hs n hc)]
theorem OwnW.ne79{w:World}{v:Value}{l:List Wd}(h:OwnW w v l){c:Nat}{o:Obj}(hc:w.heap[c]? = some o)(ho:∀ a f,o≠.cells a 186 f):v.ownBlock≠some c:=by
 intro e
 rcases h.2 with⟨rfl,h0⟩ | ⟨g,cap,cur,rfl,h1,h2,_⟩
 ·cases e
 ·simp[Value.ownBlock] at e
  subst e
  rw[hc] at h2
  exact ho _ _ (Option.some.inj h2)
structure RS(w:World)(mb:Nat)(cells a tf:Int)(ts:List Th)(rs:List Cl)(fv tv0:Value)(S:List Sp)(W:World)(tv:Value)(V:List Int)(i:Nat):Prop where
 m:Mvg W mb cells a tf ts rs fv tv V 0
 r:RW w S W (rmap (zO a ts) tf V rs i)
 k:Kp ([mb]++fv.ownBlock.toList++tv0.ownBlock.toList++S.map Sp.b) w W
 f:tv.ownBlock=tv0.ownBlock\/∃ g,tv.ownBlock=some g/\w.heap.size<=g
 s:∀ x,⟨true,x⟩∈rs.take i->x∈V
theorem RS.kp{w:World}{mb:Nat}{cells a tf:Int}{ts:List Th}{rs:List Cl}{fv tv0:Value}{S:List Sp}{W W':World}{tv:Value}{V:List Int}{i:Nat}(h:RS w mb cells a tf ts rs fv tv0 S W tv V i){k:Nat}(hk:w.heap.size<=k)(ho:∃ o:Obj,W.heap[k]? = some o/\o.isCells=false)(hw:Kp [k] W W'):RS w mb cells a tf ts rs fv tv0 S W' tv V i:=by
 obtain⟨o,ho,hoc⟩:=ho
 have hn:∀ t b f,o≠.cells b t f:=fun t b f e=>by rw[e] at hoc;cases hoc
 have h1:mb≠k:=fun e=>by
  have:=h.m.mem.box
  rw[e,ho] at this
  exact hn _ _ _ (Option.some.inj this)
 refine⟨h.m.kp hw (by simpa using h1) (fun j hj=>by simp;exact fun e=>h.m.mem.fown.ne79 ho (fun b f=>hn 186 b f) (e ▸ hj)) (fun j hj=>by simp;exact fun e=>h.m.mem.town.ne79 ho (fun b f=>hn 186 b f) (e ▸ hj)),h.r.kp hw (fun x hx hx2=>?_),h.k.then hw (fun y hy=>Or.inr (by simp at hy;subst hy;exact hk)),h.f,h.s⟩
 simp at hx2
 subst hx2
 exact h.r.ne ho (fun a t e=>absurd e (hn _ _ _)) hx
theorem rec30(n:Nat)(w:World):CallsDIn Fence.wide n Tryz.prog 143 #[] .returning w fun e u' w'=>(∃ v,e=.returned v)/\u'=.returning/\w'=w:=by
 refine callsDIn_of_wpSIn Tryz.func143 rfl trivial fun c₀ cs hu=>?_
 apply wpSIn_region
 simp[wpOpsSIn,go_sem,recoverD,hu,Tryz.ntmps143,bodyPostS,results,Tryz.results143]
 rw[<-hu]
end Go.Proofs.YtkcmachfagcnaaaGreatDoor
