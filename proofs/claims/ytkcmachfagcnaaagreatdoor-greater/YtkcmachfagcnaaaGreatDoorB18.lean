/- Part of Greater. -/
import Derived.Test.YtkcmachfagcnaaaGreatDoorB17
set_option maxHeartbeats 8000000
set_option maxRecDepth 100000
namespace Go.Proofs.YtkcmachfagcnaaaGreatDoor
open Go.RowKit Go.Deep Go.IntWalk
theorem zv1(P:Doc):mkV P []=fun _=>0:=by funext x;simp[mkV]
structure MvInit(w:World)(cells a tf:Int)(ts:List Th)(rs:List Cl)(fv:Value)(mb:Nat)(tv0:Value)(g:Nat)(W:World):Prop where
 m:Mvg W mb cells a tf ts rs fv tv0 [] 0
 b:Below w.heap.size w W
 h1:w.heap.size<=mb
 h2:tv0.ownBlock=some g
 h3:w.heap.size<=g
theorem zdb(w:World)(n:Nat)(hn:n<=1000000):∃ cur:Array Value,cur.size=n * 5/\(Instr.makeSlice 89 (.int .i64 0) (.int .i64 n)).run Tryz.prog w=.ok (.slice (some ⟨w.heap.size,0,none⟩) 0 n) (w.alloc (.cells cur 186)):=by
 obtain⟨i0,hi0,hz0,hz1,hz2⟩:=zap zlj
 have h:=run_make (P:=Tryz.prog) w 89 186 i0 _ zgi hi0 hz0 .i64 .i64 0 (n:Int) (by omega) (by omega) (by rw[hz2];omega) (by omega)
 refine⟨_,?_,h⟩
 simp[madeCells,hz1]
theorem zfa(w:World)(cur:Array Value)(n:Nat)(hn:n<=1000000)(hc:cur.size=n * 5):OwnW (w.alloc (.cells cur 186)) (.slice (some ⟨w.heap.size,0,none⟩) 0 n) []:=
 World.ownsRow_made w cur n (Nat.zero_le _) (by unfold maxLen;omega) hc
def put6(w:World)(b:Nat)(v0 v1 v2 v3 v4 v5:Value):World:=(((((w.setCell ⟨b,0,none⟩ v0).setCell ⟨b,1,none⟩ v1).setCell ⟨b,2,none⟩ v2).setCell ⟨b,3,none⟩ v3).setCell ⟨b,4,none⟩ v4).setCell ⟨b,5,none⟩ v5
theorem zvm(w:World)(b:Nat)(v0 v1 v2 v3 v4 v5:Value):Kp [b] w (put6 w b v0 v1 v2 v3 v4 v5):=
 (((((Kp.setCell _ ⟨b,_,none⟩ (by simp) _).trans (Kp.setCell _ ⟨b,_,none⟩ (by simp) _)).trans (Kp.setCell _ ⟨b,_,none⟩ (by simp) _)).trans (Kp.setCell _ ⟨b,_,none⟩ (by simp) _)).trans (Kp.setCell _ ⟨b,_,none⟩ (by simp) _)).trans (Kp.setCell _ ⟨b,_,none⟩ (by simp) _)
theorem zsr{w:World}{b:Nat}{a0 a1 a2 a3 a4 a5:Value}{ty:TypeId}(h:w.heap[b]? = some (.cells #[a0,a1,a2,a3,a4,a5] ty))(v0 v1 v2 v3 v4 v5:Value):(put6 w b v0 v1 v2 v3 v4 v5).heap[b]? = some (.cells #[v0,v1,v2,v3,v4,v5] ty):=by
 simp[put6,World.setCell,Array.getElem?_modify,h]
theorem zfv{w W:World}{hb:Nat}{cells first:Int}{v:Value}{ts:List Th}(h:HpO w hb cells first v (encL (fun _=>0) first ts))(hB:Below w.heap.size w W)(hf:first<=8000000000000000000){r n mb:Nat}{a0 a1 a2 a3 a4 a5:Value}(hr:OwnW W (.slice (some ⟨r,0,none⟩) 0 n) [])(hrs:w.heap.size<=r)(hmb:W.heap[mb]? = some (.cells #[a0,a1,a2,a3,a4,a5] 236))(hms:w.heap.size<=mb)(rs:List Cl) :
  MvInit w cells first (first+total ts) ts rs v mb (.slice (some ⟨r,0,none⟩) 0 n) r (put6 W mb (.int .i64 cells) (.int .i64 first) v (.int .i64 cells) (.int .i64 (first+total ts)) (.slice (some ⟨r,0,none⟩) 0 n)):=by
 have hlen:=h.len
 rw[zak] at hlen
 have hrl:r < W.heap.size:=hr.lt rfl
 have hrm:r≠mb:=fun e=>hr.ne hmb (by decide) (e ▸ rfl)
 have hk:Kp [mb] W (put6 W mb (.int .i64 cells) (.int .i64 first) v (.int .i64 cells) (.int .i64 (first+total ts)) (.slice (some ⟨r,0,none⟩) 0 n)):=zvm _ _ _ _ _ _ _ _
 have hk2:Kp [mb] w (put6 W mb (.int .i64 cells) (.int .i64 first) v (.int .i64 cells) (.int .i64 (first+total ts)) (.slice (some ⟨r,0,none⟩) 0 n)):=(Kp.zB hB).then hk (by simp)
 refine MvInit.mk ⟨⟨zsr hmb _ _ _ _ _ _,?_,hr.kp hk (by intro k hk;cases hk;simpa using hrm),?_,?_,by simp[scan,raw],h.pos,by have:=h.pos;omega⟩,by simp,by simp,by simp,by intro w hw;simp[raw] at hw,by simp⟩ (hk2.below (Nat.le_refl _) (by simpa using hms)) hms rfl hrs
 ·rw[zv1]
  exact h.own.kp hk2 (fun k hk=>by have:=h.own.lt hk;simp;omega)
 ·intro k hk e
  have:=h.own.lt hk
  simp[Value.ownBlock] at e
  omega
 ·rw[zak]
  exact hlen
inductive zCP(w:World)(hb:Nat)(cells first:Int)(v:Value)(ts:List Th)(rs:List Cl)(S:List Sp):Ending->World->Prop
 | mk (V:List Int) (v':Value) (w':World) (hn:V.Nodup) (hV:∀ x,x∈V↔Reach (zO first ts) rs x) (hs:∀ x∈V,(zO first ts x).isSome=true)
   (hh:HpO w' hb cells (first+total ts) v' (encL (fun _=>0) (first+total ts) (V.map (fun x=>mvT (fw (zO first ts) (first+total ts) V) (thP (zO first ts) x)))))
   (hr:RW w S w' (rs.map (mvC (fw (zO first ts) (first+total ts) V)))) (hk:Kp ([hb]++v.ownBlock.toList++S.map Sp.b) w w') (hf:∃ g,v'.ownBlock=some g/\w.heap.size<=g) :
   zCP w hb cells first v ts rs S (.returned (.int .i64 (zU (zO first ts) V:Nat))) w'
theorem zlu{P:Doc}{rs:List Cl}{V:List Int}(hr:∀ x,⟨true,x⟩∈rs->x∈V)(hs:Sn P V (raw P V).length):∀ x,Reach P rs x->x∈V:=by
 intro x hx
 induction hx with
 | root b h=>exact hr b h
 | field a b t _ ht hf ih=>
  have hm:fld ⟨true,b⟩∈raw P V:=by
   refine List.mem_flatMap.2 ⟨a,ih,?_⟩
   unfold encT thP
   rw[ht]
   exact List.mem_cons_of_mem _ (List.mem_map.2 ⟨_,hf,rfl⟩)
  exact hs _ (by rw[List.take_length];exact hm) rfl
def put3(w:World)(b:Nat)(v0 v1 v2:Value):World:=((w.setCell ⟨b,0,none⟩ v0).setCell ⟨b,1,none⟩ v1).setCell ⟨b,2,none⟩ v2
theorem zvn(w:World)(b:Nat)(v0 v1 v2:Value):Kp [b] w (put3 w b v0 v1 v2):=((Kp.setCell _ ⟨b,_,none⟩ (by simp) _).trans (Kp.setCell _ ⟨b,_,none⟩ (by simp) _)).trans (Kp.setCell _ ⟨b,_,none⟩ (by simp) _)
theorem zl7{w:World}{b:Nat}{a0 a1 a2:Value}{ty:TypeId}(h:w.heap[b]? = some (.cells #[a0,a1,a2] ty))(v0 v1 v2:Value):(put3 w b v0 v1 v2).heap[b]? = some (.cells #[v0,v1,v2] ty):=by
 simp[put3,World.setCell,Array.getElem?_modify,h]
structure CE(w:World)(hb mb:Nat)(cells first tf:Int)(ts:List Th)(rs:List Cl)(v tv:Value)(S:List Sp)(W:World)(V:List Int):Prop where
 m:Mvg W mb cells first tf ts rs v tv V (raw (zO first ts) V).length
 box:W.heap[hb]? = some (.cells #[.int .i64 cells,.int .i64 first,v] 91)
 r:RW w S W (rs.map (mvC (fw (zO first ts) tf V)))
 k:Kp (v.ownBlock.toList++S.map Sp.b) w W
 f:∃ g,tv.ownBlock=some g/\w.heap.size<=g
 a:∀ x,Reach (zO first ts) rs x->x∈V
theorem zya{w wc w5 w6:World}{hb mb:Nat}{cells first tf:Int}{ts:List Th}{rs:List Cl}{v tv0 tv tv':Value}{S:List Sp}{g0:Nat}{V V':List Int}(h:HpO w hb cells first v (encL (fun _=>0) first ts))(hr:RW w S w rs)(hI:MvInit w cells first tf ts rs v mb tv0 g0 wc)(hR:RS wc mb cells first tf ts rs v tv0 S w5 tv V rs.length)(hF:FS w5 mb cells first tf ts rs v tv V w6 tv' V' (raw (zO first ts) V').length):CE w hb mb cells first tf ts rs v tv' S w6 V':=by
 have hwc:=hI.b.size
 have hw5:=hR.k.size
 have hbl:=(sz h.box)
 have hg5:∃ g,tv.ownBlock=some g/\w.heap.size<=g:=by
  rcases hR.f with e | ⟨g,e1,e2⟩
  ·exact⟨g0,e.trans hI.h2,hI.h3⟩
  ·exact⟨g,e1,by omega⟩
 obtain⟨g5,hg51,hg52⟩:=hg5
 have hk5:Kp (v.ownBlock.toList++S.map Sp.b) w w5:=(Kp.zB hI.b).then hR.k (fun y hy=>by
  rcases List.mem_append.1 hy with hy | hy
  ·rcases List.mem_append.1 hy with hy | hy
   ·rcases List.mem_append.1 hy with hy | hy
    ·exact Or.inr (by simp at hy;have:=hI.h1;omega)
    ·exact Or.inl (List.mem_append_left _ hy)
   ·rw[hI.h2] at hy
    simp at hy
    subst hy
    exact Or.inr hI.h3
  ·exact Or.inl (List.mem_append_right _ hy))
 have hk6:Kp (v.ownBlock.toList++S.map Sp.b) w w6:=hk5.then hF.k (fun y hy=>by
  rcases List.mem_append.1 hy with hy | hy
  ·rcases List.mem_append.1 hy with hy | hy
   ·exact Or.inr (by simp at hy;have:=hI.h1;omega)
   ·exact Or.inl (List.mem_append_left _ hy)
  ·rw[hg51] at hy
   simp at hy
   subst hy
   exact Or.inr hg52)
 have hs:=fun x (hx:⟨true,x⟩∈rs)=>hR.s x (by rw[List.take_length];exact hx)
 refine⟨hF.m,(hk6.block hb hbl ?_).trans h.box,?_,hk6,?_,zlu (fun x hx=>hF.s x (hs x hx)) hF.m.sn⟩
 ·simp only[List.mem_append,not_or]
  exact⟨by simp;exact fun e=>h.own.ne h.box (by decide) e,hr.ne h.box (fun a t e=>by simp only[Obj.cells.injEq] at e;rw[<-e.2.1];decide)⟩
 ·have e:rmap (zO first ts) tf V rs rs.length=rs.map (mvC (fw (zO first ts) tf V')):=by
   rw[zsp]
   refine List.map_congr_left (fun c hc=>?_)
   obtain⟨p,n⟩:=c
   cases p
   ·rfl
   ·unfold mvC
    simp only[if_pos]
    rw[hF.e n (hs n hc)]
  rw[<-e]
  refine(hR.r.rebase (fun x hx=>hI.b.block x (hr.lt hx))).keep (fun k hk=>hF.k.block k (hR.r.lt hk) ?_)
  obtain⟨cur,tg,hcur,htg⟩:=hR.r.obj hk
  simp
  refine⟨fun e=>?_,fun e=>hR.m.mem.fown.ne hcur (by rcases htg with h | h <;> rw[h] <;> decide) e,fun e=>hR.m.mem.town.ne hcur (by rcases htg with h | h <;> rw[h] <;> decide) e⟩
  have:=hR.m.mem.box
  rw[<-e,hcur] at this
  simp only[Option.some.injEq,Obj.cells.injEq] at this
  rcases htg with h | h <;> rw[h] at this <;> exact absurd this.2.1 (by decide)
 ·rcases hF.f with e | ⟨g,e1,e2⟩
  ·exact⟨g5,e.trans hg51,hg52⟩
  ·exact⟨g,e1,by omega⟩
theorem zwt{w:World}{hb mb:Nat}{cells first:Int}{ts:List Th}{rs:List Cl}{v tv:Value}{S:List Sp}{W:World}{V:List Int}(h:HpO w hb cells first v (encL (fun _=>0) first ts))(hf:first<=8000000000000000000)(hC:CE w hb mb cells first (first+total ts) ts rs v tv S W V) :
  zCP w hb cells first v ts rs S (.returned (.int .i64 (zU (zO first ts) V:Nat))) (put3 W hb (.int .i64 cells) (.int .i64 (first+total ts)) tv):=by
 have hk:Kp [hb] W (put3 W hb (.int .i64 cells) (.int .i64 (first+total ts)) tv):=zvn _ _ _ _ _
 have hbl:=(sz h.box)
 have htot:total ts<=1000000:=by have:=h.len;rwa [zak] at this
 have hpos:=h.pos
 have hcl:=zeo hC.m.nd hC.m.there
 obtain⟨g,hg1,hg2⟩:=hC.f
 refine zCP.mk V tv _ hC.m.nd (fun x=>⟨hC.m.rch x,hC.a x⟩) hC.m.there ⟨zl7 hC.box _ _ _,?_,?_,by omega⟩ ?_ ?_ hC.f
 ·rw[<-zl3]
  exact hC.m.mem.town.kp hk (fun k hk2=>by rw[hg1] at hk2;cases hk2;simp;omega)
 ·rw[<-zl3,zdq,zev]
  omega
 ·refine hC.r.keep (fun k hk2=>hk.block k (hC.r.lt hk2) ?_)
  simp
  exact fun e=>hC.r.ne hC.box (fun a t e=>by simp only[Obj.cells.injEq] at e;rw[<-e.2.1];decide) (e ▸ hk2)
 ·refine(hC.k.mono (fun a h=>by rcases List.mem_append.1 h with h | h;exact List.mem_append_left _ (List.mem_append_right _ h);exact List.mem_append_right _ h)).then hk (by simp)
theorem box6{w:World}{b t:Nat}{c0 c1 c2 c3 c4 c5:Value}(h:w.heap[b]? = some (.cells #[c0,c1,c2,c3,c4,c5] t)):w.cell? ⟨b,0,none⟩=some c0/\w.frozen? ⟨b,0,none⟩=false/\w.cell? ⟨b,1,none⟩=some c1/\w.frozen? ⟨b,1,none⟩=false/\w.cell? ⟨b,2,none⟩=some c2/\w.frozen? ⟨b,2,none⟩=false/\w.cell? ⟨b,3,none⟩=some c3/\w.frozen? ⟨b,3,none⟩=false/\w.cell? ⟨b,4,none⟩=some c4/\w.frozen? ⟨b,4,none⟩=false/\w.cell? ⟨b,5,none⟩=some c5/\w.frozen? ⟨b,5,none⟩=false:=by
 refine⟨?_,?_,?_,?_,?_,?_,?_,?_,?_,?_,?_,?_⟩ <;> simp[World.cell?,World.frozen?,h]
theorem zlp(w:World)(hb:Nat)(cells first:Int)(v:Value)(ts:List Th)(h:HpO w hb cells first v (encL (fun _=>0) first ts))(hf:first<=8000000000000000000)(hc:zdn first ts)(rs:List Cl)(hro:zc5 (zO first ts) rs)(S:List Sp)(mm:Nat)(A:Array Value)(hMR:MR S A)(hW:w.heap[mm]? = some (.cells A 64))(hr:RW w S w rs) :
  Calls Tryz.prog 124 #[.pointer (some ⟨hb,0,none⟩),.func (.func 103) #[.pointer (some ⟨mm,0,none⟩)] #[]] w fun e w'=>zCP w hb cells first v ts rs S e w':=by
 obtain⟨p,cap,rfl,hA,ha⟩:=h.at
 have htot:total ts<=1000000:=by have:=h.len;rwa [zak] at this
 rw[zak] at *
 have H:=zh h
 have Hall:Hid (∀ wx,Below w.heap.size w wx->wx.cell? ⟨hb,0,none⟩=some (.int .i64 cells)/\wx.cell? ⟨hb,1,none⟩=some (.int .i64 first)/\wx.cell? ⟨hb,2,none⟩=some (.slice p (total ts) cap)/\hb < wx.heap.size):=fun wx hk=>by
  obtain⟨c0,c1,c2,c3⟩:=(hA.kp (Kp.zB (X:=[]) hk)).cells
  rw[zak] at c2
  exact⟨c0,c1,c2,c3⟩
 have Hend:Hid (∀ wx,Below w.heap.size w wx->Calls Tryz.prog 110 #[.pointer (some ⟨hb,0,none⟩)] wx fun e w'=>e=.returned (.int .i64 (first+total ts))/\Below wx.heap.size wx w'):=fun wx hk=>cM (zlm wx hb 0 cells first p cap _ (hA.kp (Kp.zB (X:=[]) hk))) (fun e w' g=>⟨by rw[g.1,zak],g.2⟩)
 have Hc:=zh hc
 have Hro:=zh hro
 have HW:=zh hW
 have Hr:=zh hr
 clear h hA ha hc hro hW hr
 go_enter Tryz.func124,Tryz.ntmps124
 go_upto_region 3 with fail
 go_cut [5] from 8 to 24 (fun t wx=>∃ mb r n,t=.pointer (some ⟨mb,0,none⟩)/\Hid (MvInit w cells first (first+total ts) ts rs (.slice p (total ts) cap) mb (.slice (some ⟨r,0,none⟩) 0 n) r wx))
 case first=>
  refine zao (C:=fun wx=>Below w.heap.size w wx) (by kernel_rfl) ?_
  have HB0:Hid (Below w.heap.size w w.drew):=(Below.refl _ _).drew
  generalize w.drew=wd at *
  refine qA 0 rfl ?_
  apply xI
  (intro wx hwx;obtain⟨c0,c1,c2,c3⟩:=Hall.o wx hwx;go_simp <;> rfl)
  refine qA 1 rfl ?_
  apply xI
  (intro wx hwx;obtain⟨c0,c1,c2,c3⟩:=Hall.o wx hwx;go_simp <;> rfl)
  refine qA 2 rfl ?_
  apply xI
  (intro wx hwx;obtain⟨c0,c1,c2,c3⟩:=Hall.o wx hwx;go_simp <;> rfl)
  refine qA 3 rfl ?_
  apply xI
  (intro wx hwx;obtain⟨c0,c1,c2,c3⟩:=Hall.o wx hwx;go_simp <;> rfl)
  refine qA 4 rfl ?_
  apply xI
  (intro wx hwx;obtain⟨c0,c1,c2,c3⟩:=Hall.o wx hwx;go_simp <;> rfl)
  refine qA 5 rfl ?_
  apply xI
  (intro wx hwx;obtain⟨c0,c1,c2,c3⟩:=Hall.o wx hwx;go_simp <;> rfl)
  refine qA 6 rfl ?_
  apply xI
  (intro wx hwx;obtain⟨c0,c1,c2,c3⟩:=Hall.o wx hwx;go_simp <;> rfl)
  refine qA 7 rfl ?_
  apply xI
  (intro wx hwx;obtain⟨c0,c1,c2,c3⟩:=Hall.o wx hwx;go_simp <;> rfl)
  refine qA 9 rfl ?_
  apply xI
  (intro wx hwx;obtain⟨c0,c1,c2,c3⟩:=Hall.o wx hwx;go_simp <;> rfl)
  refine qA 10 rfl ?_
  apply xI
  (intro wx hwx;obtain⟨c0,c1,c2,c3⟩:=Hall.o wx hwx;go_simp <;> rfl)
  refine qA 11 rfl ?_
  apply xI
  (intro wx hwx;obtain⟨c0,c1,c2,c3⟩:=Hall.o wx hwx;go_simp <;> rfl)
  refine qA 12 rfl ?_
  apply xI
  (intro wx hwx;obtain⟨c0,c1,c2,c3⟩:=Hall.o wx hwx;go_simp <;> rfl)
  refine qA 13 rfl ?_
  apply xI
  (intro wx hwx;obtain⟨c0,c1,c2,c3⟩:=Hall.o wx hwx;go_simp <;> rfl)
  go_simp
  refine zdk (rs:=[8,14,17]) HB0.o (by kernel_rfl) (by simp) ?_
  intro i hi
  have hi3:i=8\/i=14\/i=17:=by simpa using hi
  clear hi
  rcases hi3 with rfl | rfl | rfl
  ·refine zb0 (o:=?o1) ?ha1 ?hb1
   case ha1=>rfl
   intro K hK
   go_simp
   refine cM (Hend.o _ HB0.o) ?_
   rintro e w1 ⟨rfl,hb1⟩
   refine hK _ _ ?_
   clear hK K
   have HB1:=zh (HB0.o.trans (hb1.mono HB0.o.size))
   clear hb1
   refine zdk (rs:=[14,17]) HB1.o (by kernel_rfl) (by simp) ?_
   intro i hi
   have hi3:i=14\/i=17:=by simpa using hi
   clear hi
   rcases hi3 with rfl | rfl
   ·refine zb0 (o:=?o2) ?ha2 ?hb2
    case ha2=>rfl
    intro K hK
    obtain⟨cur,hcs,hrun⟩:=zdb w1 (total ts) htot
    go_simp
    refine hK _ _ ?_
    clear hK K hrun
    have hal:Kp [] w1 ((w1).alloc (.cells cur 186)):=Kp.alloc [] w1 _
    have HB2:=zh (HB1.o.trans (hal.below HB1.o.size (by simp)))
    have Hown2:=zh (zfa w1 cur (total ts) htot hcs)
    have Hr:=zh HB1.o.size
    clear hal hcs
    generalize (w1).alloc _=w2 at *
    generalize (w1).heap.size=r at *
    refine qA 15 rfl ?_
    apply xI
    (intro wx hwx;go_simp <;> rfl)
    refine qA 16 rfl ?_
    apply xI
    (intro wx hwx;go_simp <;> rfl)
    go_simp
    refine zby (i:=17) (o:=?o3) HB2.o ?ha3 (by kernel_rfl) ?hb3
    case ha3=>rfl
    intro K hK
    go_simp
    refine hK _ _ ?_
    clear hK K
    have hal:Kp [] w2 ((w2).alloc (.cells #[.int .i64 0,.int .i64 0,.slice none 0 0,.int .i64 0,.int .i64 0,.slice none 0 0] 236)):=Kp.alloc [] w2 _
    have HB3:=zh (HB2.o.trans (hal.below HB2.o.size (by simp)))
    have Hbox3:Hid (((w2).alloc (.cells #[.int .i64 0,.int .i64 0,.slice none 0 0,.int .i64 0,.int .i64 0,.slice none 0 0] 236)).heap[(w2).heap.size]? = some (.cells #[.int .i64 0,.int .i64 0,.slice none 0 0,.int .i64 0,.int .i64 0,.slice none 0 0] 236)):=zab w2 _
    have Hmb:=zh HB2.o.size
    have Hown3:=zh (Hown2.o.kp hal (by simp))
    clear hal
    generalize (w2).alloc _=w3 at *
    generalize (w2).heap.size=mb at *
    have HI:=zh (zfv H.o HB3.o hf Hown3.o Hr.o Hbox3.o Hmb.o rs)
    have hbx:=Hbox3.o
    have HBz:=zh HB3.o
    have hlt:=(sz hbx)
    obtain⟨x0,y0,x1,y1,x2,y2,x3,y3,x4,y4,x5,y5⟩:=box6 hbx
    clear hbx
    refine oA 18 HBz.o rfl (fun K hK=>?_)
    unfold put6 at HI
    go_simp
    refine hK _ _ ?_
    clear hK K
    refine zag HI.o.b (by kernel_rfl) ?_
    go_wp2_with fail
    go_meet
    exact⟨mb,r,_,rfl,HI⟩
   ·refine zb0 (o:=?o4) ?ha4 ?hb4
    case ha4=>rfl
    intro K hK
    go_simp
    refine hK _ _ ?_
    clear hK K
    have hal:Kp [] w1 ((w1).alloc (.cells #[.int .i64 0,.int .i64 0,.slice none 0 0,.int .i64 0,.int .i64 0,.slice none 0 0] 236)):=Kp.alloc [] w1 _
    have HB2:=zh (HB1.o.trans (hal.below HB1.o.size (by simp)))
    have Hbox2:Hid (((w1).alloc (.cells #[.int .i64 0,.int .i64 0,.slice none 0 0,.int .i64 0,.int .i64 0,.slice none 0 0] 236)).heap[(w1).heap.size]? = some (.cells #[.int .i64 0,.int .i64 0,.slice none 0 0,.int .i64 0,.int .i64 0,.slice none 0 0] 236)):=zab w1 _
    have Hmb:=zh HB1.o.size
    clear hal
    generalize (w1).alloc _=w2 at *
    generalize (w1).heap.size=mb at *
    refine zby (i:=14) (o:=?o5) HB2.o ?ha5 (by kernel_rfl) ?hb5
    case ha5=>rfl
    intro K hK
    obtain⟨cur,hcs,hrun⟩:=zdb w2 (total ts) htot
    go_simp
    refine hK _ _ ?_
    clear hK K hrun
    have hal:Kp [] w2 ((w2).alloc (.cells cur 186)):=Kp.alloc [] w2 _
    have HB3:=zh (HB2.o.trans (hal.below HB2.o.size (by simp)))
    have Hown3:=zh (zfa w2 cur (total ts) htot hcs)
    have Hr:=zh HB2.o.size
    have Hbox3:Hid (((w2).alloc (.cells cur 186)).heap[mb]? = some (.cells #[.int .i64 0,.int .i64 0,.slice none 0 0,.int .i64 0,.int .i64 0,.slice none 0 0] 236)):=(hal.block mb (sz Hbox2.o) (by simp)).trans Hbox2.o
    clear hal hcs
    generalize (w2).alloc _=w3 at *
    generalize (w2).heap.size=r at *
    refine oA 15 HB3.o rfl (fun K hK=>?_)
    go_simp
    refine hK _ _ ?_
    clear hK K
    refine oA 16 HB3.o rfl (fun K hK=>?_)
    go_simp
    refine hK _ _ ?_
    clear hK K
    have HI:=zh (zfv H.o HB3.o hf Hown3.o Hr.o Hbox3.o Hmb.o rs)
    have hbx:=Hbox3.o
    have HBz:=zh HB3.o
    have hlt:=(sz hbx)
    obtain⟨x0,y0,x1,y1,x2,y2,x3,y3,x4,y4,x5,y5⟩:=box6 hbx
    clear hbx
    refine oA 18 HBz.o rfl (fun K hK=>?_)
    unfold put6 at HI
    go_simp
    refine hK _ _ ?_
    clear hK K
    refine zag HI.o.b (by kernel_rfl) ?_
    go_wp2_with fail
    go_meet
    exact⟨mb,r,_,rfl,HI⟩
  ·refine zb0 (o:=?o6) ?ha6 ?hb6
   case ha6=>rfl
   intro K hK
   obtain⟨cur,hcs,hrun⟩:=zdb wd (total ts) htot
   go_simp
   refine hK _ _ ?_
   clear hK K hrun
   have hal:Kp [] wd (wd.alloc (.cells cur 186)):=Kp.alloc [] wd _
   have HB1:=zh (HB0.o.trans (hal.below HB0.o.size (by simp)))
   have Hown1:=zh (zfa wd cur (total ts) htot hcs)
   have Hr:=zh HB0.o.size
   clear hal hcs
   generalize wd.alloc _=w1 at *
   generalize wd.heap.size=r at *
   refine zdk (rs:=[8,17]) HB1.o (by kernel_rfl) (by simp) ?_
   intro i hi
   have hi3:i=8\/i=17:=by simpa using hi
   clear hi
   rcases hi3 with rfl | rfl
   ·refine zb0 (o:=?o7) ?ha7 ?hb7
    case ha7=>rfl
    intro K hK
    go_simp
    refine cM (Hend.o _ HB1.o) ?_
    rintro e w2 ⟨rfl,hb2⟩
    refine hK _ _ ?_
    clear hK K
    have HB2:=zh (HB1.o.trans (hb2.mono HB1.o.size))
    have Hown2:=zh (Hown1.o.kp (Kp.zB (X:=[]) hb2) (by simp))
    clear hb2
    refine qA 15 rfl ?_
    apply xI
    (intro wx hwx;go_simp <;> rfl)
    refine qA 16 rfl ?_
    apply xI
    (intro wx hwx;go_simp <;> rfl)
    go_simp
    refine zby (i:=17) (o:=?o8) HB2.o ?ha8 (by kernel_rfl) ?hb8
    case ha8=>rfl
    intro K hK
    go_simp
    refine hK _ _ ?_
    clear hK K
    have hal:Kp [] w2 ((w2).alloc (.cells #[.int .i64 0,.int .i64 0,.slice none 0 0,.int .i64 0,.int .i64 0,.slice none 0 0] 236)):=Kp.alloc [] w2 _
    have HB3:=zh (HB2.o.trans (hal.below HB2.o.size (by simp)))
    have Hbox3:Hid (((w2).alloc (.cells #[.int .i64 0,.int .i64 0,.slice none 0 0,.int .i64 0,.int .i64 0,.slice none 0 0] 236)).heap[(w2).heap.size]? = some (.cells #[.int .i64 0,.int .i64 0,.slice none 0 0,.int .i64 0,.int .i64 0,.slice none 0 0] 236)):=zab w2 _
    have Hmb:=zh HB2.o.size
    have Hown3:=zh (Hown2.o.kp hal (by simp))
    clear hal
    generalize (w2).alloc _=w3 at *
    generalize (w2).heap.size=mb at *
    have HI:=zh (zfv H.o HB3.o hf Hown3.o Hr.o Hbox3.o Hmb.o rs)
    have hbx:=Hbox3.o
    have HBz:=zh HB3.o
    have hlt:=(sz hbx)
    obtain⟨x0,y0,x1,y1,x2,y2,x3,y3,x4,y4,x5,y5⟩:=box6 hbx
    clear hbx
    refine oA 18 HBz.o rfl (fun K hK=>?_)
    unfold put6 at HI
    go_simp
    refine hK _ _ ?_
    clear hK K
    refine zag HI.o.b (by kernel_rfl) ?_
    go_wp2_with fail
    go_meet
    exact⟨mb,r,_,rfl,HI⟩
   ·refine zb0 (o:=?o9) ?ha9 ?hb9
    case ha9=>rfl
    intro K hK
    go_simp
    refine hK _ _ ?_
    clear hK K
    have hal:Kp [] w1 ((w1).alloc (.cells #[.int .i64 0,.int .i64 0,.slice none 0 0,.int .i64 0,.int .i64 0,.slice none 0 0] 236)):=Kp.alloc [] w1 _
    have HB2:=zh (HB1.o.trans (hal.below HB1.o.size (by simp)))
    have Hbox2:Hid (((w1).alloc (.cells #[.int .i64 0,.int .i64 0,.slice none 0 0,.int .i64 0,.int .i64 0,.slice none 0 0] 236)).heap[(w1).heap.size]? = some (.cells #[.int .i64 0,.int .i64 0,.slice none 0 0,.int .i64 0,.int .i64 0,.slice none 0 0] 236)):=zab w1 _
    have Hmb:=zh HB1.o.size
    have Hown2:=zh (Hown1.o.kp hal (by simp))
    clear hal
    generalize (w1).alloc _=w2 at *
    generalize (w1).heap.size=mb at *
    refine zby (i:=8) (o:=?o10) HB2.o ?ha10 (by kernel_rfl) ?hb10
    case ha10=>rfl
    intro K hK
    go_simp
    refine cM (Hend.o _ HB2.o) ?_
    rintro e w3 ⟨rfl,hb3⟩
    refine hK _ _ ?_
    clear hK K
    have HB3:=zh (HB2.o.trans (hb3.mono HB2.o.size))
    have Hown3:=zh (Hown2.o.kp (Kp.zB (X:=[]) hb3) (by simp))
    have Hbox3:Hid (w3.heap[mb]? = some (.cells #[.int .i64 0,.int .i64 0,.slice none 0 0,.int .i64 0,.int .i64 0,.slice none 0 0] 236)):=(hb3.block mb (sz Hbox2.o)).trans Hbox2.o
    clear hb3
    refine oA 15 HB3.o rfl (fun K hK=>?_)
    go_simp
    refine hK _ _ ?_
    clear hK K
    refine oA 16 HB3.o rfl (fun K hK=>?_)
    go_simp
    refine hK _ _ ?_
    clear hK K
    have HI:=zh (zfv H.o HB3.o hf Hown3.o Hr.o Hbox3.o Hmb.o rs)
    have hbx:=Hbox3.o
    have HBz:=zh HB3.o
    have hlt:=(sz hbx)
    obtain⟨x0,y0,x1,y1,x2,y2,x3,y3,x4,y4,x5,y5⟩:=box6 hbx
    clear hbx
    refine oA 18 HBz.o rfl (fun K hK=>?_)
    unfold put6 at HI
    go_simp
    refine hK _ _ ?_
    clear hK K
    refine zag HI.o.b (by kernel_rfl) ?_
    go_wp2_with fail
    go_meet
    exact⟨mb,r,_,rfl,HI⟩
  ·refine zb0 (o:=?o11) ?ha11 ?hb11
   case ha11=>rfl
   intro K hK
   go_simp
   refine hK _ _ ?_
   clear hK K
   have hal:Kp [] wd (wd.alloc (.cells #[.int .i64 0,.int .i64 0,.slice none 0 0,.int .i64 0,.int .i64 0,.slice none 0 0] 236)):=Kp.alloc [] wd _
   have HB1:=zh (HB0.o.trans (hal.below HB0.o.size (by simp)))
   have Hbox1:Hid ((wd.alloc (.cells #[.int .i64 0,.int .i64 0,.slice none 0 0,.int .i64 0,.int .i64 0,.slice none 0 0] 236)).heap[wd.heap.size]? = some (.cells #[.int .i64 0,.int .i64 0,.slice none 0 0,.int .i64 0,.int .i64 0,.slice none 0 0] 236)):=zab wd _
   have Hmb:=zh HB0.o.size
   clear hal
   generalize wd.alloc _=w1 at *
   generalize wd.heap.size=mb at *
   refine zdk (rs:=[8,14]) HB1.o (by kernel_rfl) (by simp) ?_
   intro i hi
   have hi3:i=8\/i=14:=by simpa using hi
   clear hi
   rcases hi3 with rfl | rfl
   ·refine zb0 (o:=?o12) ?ha12 ?hb12
    case ha12=>rfl
    intro K hK
    go_simp
    refine cM (Hend.o _ HB1.o) ?_
    rintro e w2 ⟨rfl,hb2⟩
    refine hK _ _ ?_
    clear hK K
    have HB2:=zh (HB1.o.trans (hb2.mono HB1.o.size))
    have Hbox2:Hid (w2.heap[mb]? = some (.cells #[.int .i64 0,.int .i64 0,.slice none 0 0,.int .i64 0,.int .i64 0,.slice none 0 0] 236)):=(hb2.block mb (sz Hbox1.o)).trans Hbox1.o
    clear hb2
    refine zby (i:=14) (o:=?o13) HB2.o ?ha13 (by kernel_rfl) ?hb13
    case ha13=>rfl
    intro K hK
    obtain⟨cur,hcs,hrun⟩:=zdb w2 (total ts) htot
    go_simp
    refine hK _ _ ?_
    clear hK K hrun
    have hal:Kp [] w2 ((w2).alloc (.cells cur 186)):=Kp.alloc [] w2 _
    have HB3:=zh (HB2.o.trans (hal.below HB2.o.size (by simp)))
    have Hown3:=zh (zfa w2 cur (total ts) htot hcs)
    have Hr:=zh HB2.o.size
    have Hbox3:Hid (((w2).alloc (.cells cur 186)).heap[mb]? = some (.cells #[.int .i64 0,.int .i64 0,.slice none 0 0,.int .i64 0,.int .i64 0,.slice none 0 0] 236)):=(hal.block mb (sz Hbox2.o) (by simp)).trans Hbox2.o
    clear hal hcs
    generalize (w2).alloc _=w3 at *
    generalize (w2).heap.size=r at *
    refine oA 15 HB3.o rfl (fun K hK=>?_)
    go_simp
    refine hK _ _ ?_
    clear hK K
    refine oA 16 HB3.o rfl (fun K hK=>?_)
    go_simp
    refine hK _ _ ?_
    clear hK K
    have HI:=zh (zfv H.o HB3.o hf Hown3.o Hr.o Hbox3.o Hmb.o rs)
    have hbx:=Hbox3.o
    have HBz:=zh HB3.o
    have hlt:=(sz hbx)
    obtain⟨x0,y0,x1,y1,x2,y2,x3,y3,x4,y4,x5,y5⟩:=box6 hbx
    clear hbx
    refine oA 18 HBz.o rfl (fun K hK=>?_)
    unfold put6 at HI
    go_simp
    refine hK _ _ ?_
    clear hK K
    refine zag HI.o.b (by kernel_rfl) ?_
    go_wp2_with fail
    go_meet
    exact⟨mb,r,_,rfl,HI⟩
   ·refine zb0 (o:=?o14) ?ha14 ?hb14
    case ha14=>rfl
    intro K hK
    obtain⟨cur,hcs,hrun⟩:=zdb w1 (total ts) htot
    go_simp
    refine hK _ _ ?_
    clear hK K hrun
    have hal:Kp [] w1 ((w1).alloc (.cells cur 186)):=Kp.alloc [] w1 _
    have HB2:=zh (HB1.o.trans (hal.below HB1.o.size (by simp)))
    have Hown2:=zh (zfa w1 cur (total ts) htot hcs)
    have Hr:=zh HB1.o.size
    have Hbox2:Hid (((w1).alloc (.cells cur 186)).heap[mb]? = some (.cells #[.int .i64 0,.int .i64 0,.slice none 0 0,.int .i64 0,.int .i64 0,.slice none 0 0] 236)):=(hal.block mb (sz Hbox1.o) (by simp)).trans Hbox1.o
    clear hal hcs
    generalize (w1).alloc _=w2 at *
    generalize (w1).heap.size=r at *
    refine zby (i:=8) (o:=?o15) HB2.o ?ha15 (by kernel_rfl) ?hb15
    case ha15=>rfl
    intro K hK
    go_simp
    refine cM (Hend.o _ HB2.o) ?_
    rintro e w3 ⟨rfl,hb3⟩
    refine hK _ _ ?_
    clear hK K
    have HB3:=zh (HB2.o.trans (hb3.mono HB2.o.size))
    have Hown3:=zh (Hown2.o.kp (Kp.zB (X:=[]) hb3) (by simp))
    have Hbox3:Hid (w3.heap[mb]? = some (.cells #[.int .i64 0,.int .i64 0,.slice none 0 0,.int .i64 0,.int .i64 0,.slice none 0 0] 236)):=(hb3.block mb (sz Hbox2.o)).trans Hbox2.o
    clear hb3
    refine oA 15 HB3.o rfl (fun K hK=>?_)
    go_simp
    refine hK _ _ ?_
    clear hK K
    refine oA 16 HB3.o rfl (fun K hK=>?_)
    go_simp
    refine hK _ _ ?_
    clear hK K
    have HI:=zh (zfv H.o HB3.o hf Hown3.o Hr.o Hbox3.o Hmb.o rs)
    have hbx:=Hbox3.o
    have HBz:=zh HB3.o
    have hlt:=(sz hbx)
    obtain⟨x0,y0,x1,y1,x2,y2,x3,y3,x4,y4,x5,y5⟩:=box6 hbx
    clear hbx
    refine oA 18 HBz.o rfl (fun K hK=>?_)
    unfold put6 at HI
    go_simp
    refine hK _ _ ?_
    clear hK K
    refine zag HI.o.b (by kernel_rfl) ?_
    go_wp2_with fail
    go_meet
    exact⟨mb,r,_,rfl,HI⟩
 case rest=>
  obtain⟨mb,r,n,rfl,HI⟩:=hcut
  have hw1:wc.heap[mm]? = some (.cells A 64):=(HI.o.b.block mm (sz HW.o)).trans HW.o
  have hr1:=(Hr.o.rebase (fun x hx=>(HI.o.b.block x (Hr.o.lt hx)).symm)).keep (fun k hk=>HI.o.b.block k (Hr.o.lt hk))
  have Hroots:Hid _:=zpd wc mb cells first (first+total ts) ts rs (.slice p (total ts) cap) (.slice (some ⟨r,0,none⟩) 0 n) S mm A hMR HI.o.m Hro.o hw1 hr1
  clear hw1 hr1
  go_wp2_with fail
  refine cM Hroots.o ?_
  rintro e w5 ⟨v5,w5,tv,V,hRS⟩
  have HRS:=zh hRS
  have Hfields:Hid _:=zoe w5 mb cells first (first+total ts) ts rs (.slice p (total ts) cap) tv V Hc.o hRS.m
  clear hRS
  go_wp2_with fail
  refine cM Hfields.o ?_
  rintro e w6 ⟨w6,tv',V',hFS⟩
  have hCE:=zya H.o Hr.o HI.o HRS.o hFS
  have HQ:Hid _:=zwt H.o hf hCE
  have HL:Hid ((scan (zO first ts) (first+total ts) V' (raw (zO first ts) V').length).length=zU (zO first ts) V'):=(zdq _ _ _ _).trans (zev _ _)
  obtain⟨q6,c6,hv6,c5,hml⟩:=hCE.m.mem.toCell
  have hbx:=hCE.m.mem.box
  have c3:w6.cell? ⟨mb,3,none⟩=some (.int .i64 cells):=by simp only[World.cell?,hbx];rfl
  have c4:w6.cell? ⟨mb,4,none⟩=some (.int .i64 (first+total ts)):=by simp only[World.cell?,hbx];rfl
  have hbb:=hCE.box
  have hlb:=(sz hbb)
  have x0:w6.cell? ⟨hb,0,none⟩=some (.int .i64 cells):=by simp only[World.cell?,hbb];rfl
  have x1:w6.cell? ⟨hb,1,none⟩=some (.int .i64 first):=by simp only[World.cell?,hbb];rfl
  have x2:w6.cell? ⟨hb,2,none⟩=some (.slice p (total ts) cap):=by simp only[World.cell?,hbb];rfl
  have y0:w6.frozen? ⟨hb,0,none⟩=false:=by simp only[World.frozen?,hbb];rfl
  have y1:w6.frozen? ⟨hb,1,none⟩=false:=by simp only[World.frozen?,hbb];rfl
  have y2:w6.frozen? ⟨hb,2,none⟩=false:=by simp only[World.frozen?,hbb];rfl
  subst hv6
  rw[HL.o] at c5 HQ
  have z2:(put3 w6 hb (.int .i64 cells) (.int .i64 (first+total ts)) (.slice q6 (zU (zO first ts) V') c6)).cell? ⟨hb,2,none⟩=some (.slice q6 (zU (zO first ts) V') c6):=by
   have:=zl7 hbb (.int .i64 cells) (.int .i64 (first+total ts)) (.slice q6 (zU (zO first ts) V') c6)
   simp only[World.cell?,this]
   rfl
  have z3:hb < (put3 w6 hb (.int .i64 cells) (.int .i64 (first+total ts)) (.slice q6 (zU (zO first ts) V') c6)).heap.size:=by simpa [put3,World.setCell] using hlb
  clear hbx hbb hCE hFS
  unfold put3 at *
  go_wp2_with fail
  exact bR (by simp[results,Tryz.results124,go_sem]) HQ.o
end Go.Proofs.YtkcmachfagcnaaaGreatDoor
