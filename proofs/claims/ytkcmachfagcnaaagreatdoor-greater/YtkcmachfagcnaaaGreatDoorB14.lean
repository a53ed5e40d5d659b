/- Part of Greater. -/
import Derived.Lib.AppendZerosOnto
import Derived.Laws.CopyRow
import Derived.Test.YtkcmachfagcnaaaGreatDoorB13
set_option maxHeartbeats 8000000
set_option maxRecDepth 100000
namespace Go.Proofs.YtkcmachfagcnaaaGreatDoor
open Go.RowKit Go.Deep Go.IntWalk
def Wd.vals(x:Wd):List Value:=[.int .i64 x.n,.int .i32 x.moved,.int .u16 x.tag,.int .u8 x.kind,.int .u8 x.part]
def wdV(l:List Wd):List Value:=l.flatMap Wd.vals
theorem zcl(a b:List Wd):wdV (a++b)=wdV a++wdV b:=by simp[wdV]
theorem zcp(x:Wd)(r:List Wd):wdV (x :: r)=x.vals++wdV r:=rfl
theorem zga(x:Wd):x.vals.length=5:=rfl
theorem za7(l:List Wd):(wdV l).length=l.length * 5:=by
 induction l with
 | nil=>rfl
 | cons x r ih=>rw[zcp,lA,ih,zga,List.length_cons];omega
theorem zkj:∀ (l:List Wd) (i:Nat) (hi:i < l.length) (j:Nat),j < 5->(wdV l)[i * 5+j]? = (l[i]'hi).vals[j]?
 | x :: r,0,_,j,hj=>by
  rw[zcp,Nat.zero_mul,Nat.zero_add,List.getElem?_append_left (by rw[zga];exact hj)]
  rfl
 | x :: r,i+1,hi,j,hj=>by
  rw[zcp,List.getElem?_append_right (by rw[zga];omega),zga,show(i+1) * 5+j - 5=i * 5+j by omega,zkj r i (by simpa using hi) j hj]
  rfl
theorem zov(l:List Wd):∀ u∈wdV l,u.oneCell'=true:=by
 intro u hu
 obtain⟨x,_,hx⟩:=List.mem_flatMap.1 hu
 simp only[Wd.vals,List.mem_cons,List.not_mem_nil,or_false] at hx
 rcases hx with rfl | rfl | rfl | rfl | rfl <;> rfl
theorem zou(l:List Wd)(k:Nat)(hk:k < l.length)(x:Wd) :
  (((((wdV l).set (k * 5) (.int .i64 x.n)).set (k * 5+1) (.int .i32 x.moved)).set (k * 5+2) (.int .u16 x.tag)).set (k * 5+3) (.int .u8 x.kind)).set (k * 5+4) (.int .u8 x.part)=wdV (l.set k x):=by
 have e:wdV l=wdV (l.take k)++((l[k]'hk).vals++wdV (l.drop (k+1))):=by
  rw[<-zcp,<-zcl,<-List.drop_eq_getElem_cons hk,List.take_append_drop]
 have e2:wdV (l.set k x)=wdV (l.take k)++(x.vals++wdV (l.drop (k+1))):=by
  rw[<-zcp,<-zcl,List.set_eq_take_append_cons_drop,if_pos hk]
 have hlen:(wdV (l.take k)).length=k * 5:=by rw[za7,List.length_take];omega
 rw[e,e2]
 generalize wdV (l.take k)=A at *
 generalize wdV (l.drop (k+1))=B
 have hs:∀ (j:Nat) (C:List Value) (u:Value),(A++C).set (k * 5+j) u=A++C.set j u:=fun j C u=>by
  rw[List.set_append_right _ _ (by omega),hlen,Nat.add_sub_cancel_left]
 have h0:=hs 0
 simp only[Nat.add_zero] at h0
 rw[h0,hs,hs,hs,hs]
 rfl
theorem zsb(l:List Wd)(k:Nat)(hk:k < l.length)(m:Int):(wdV l).set (k * 5+1) (.int .i32 m)=wdV (l.set k {(l[k]'hk) with moved:=m}):=by
 have e:wdV l=wdV (l.take k)++((l[k]'hk).vals++wdV (l.drop (k+1))):=by
  rw[<-zcp,<-zcl,<-List.drop_eq_getElem_cons hk,List.take_append_drop]
 have e2:∀ x,wdV (l.set k x)=wdV (l.take k)++(x.vals++wdV (l.drop (k+1))):=fun x=>by
  rw[<-zcp,<-zcl,List.set_eq_take_append_cons_drop,if_pos hk]
 have hlen:(wdV (l.take k)).length=k * 5:=by rw[za7,List.length_take];omega
 rw[e2,e,List.set_append_right _ _ (by omega),hlen,Nat.add_sub_cancel_left]
 rfl
theorem zsa(l:List Wd)(k:Nat)(hk:k < l.length)(m:Int):(wdV l).set (k * 5+4) (.int .u8 m)=wdV (l.set k {(l[k]'hk) with part:=m}):=by
 have e:wdV l=wdV (l.take k)++((l[k]'hk).vals++wdV (l.drop (k+1))):=by
  rw[<-zcp,<-zcl,<-List.drop_eq_getElem_cons hk,List.take_append_drop]
 have e2:∀ x,wdV (l.set k x)=wdV (l.take k)++(x.vals++wdV (l.drop (k+1))):=fun x=>by
  rw[<-zcp,<-zcl,List.set_eq_take_append_cons_drop,if_pos hk]
 have hlen:(wdV (l.take k)).length=k * 5:=by rw[za7,List.length_take];omega
 rw[e2,e,List.set_append_right _ _ (by omega),hlen,Nat.add_sub_cancel_left]
 rfl
theorem za2{w:World}{base:Nat}{e:TypeId}{size:Nat}{v:Value}{n:Nat}{xs:List Value}(h:w.ownsRow base e size v n xs){g:Nat}(hg:v.ownBlock=some g)(off:Nat)(u:Value):(w.setCell ⟨g,off,none⟩ u).ownsRow base e size v n (xs.set off u):=by
 refine⟨by rw[List.length_set];exact h.1,?_⟩
 rcases h.2 with⟨rfl,h0⟩ | ⟨g',cap,cur,rfl,hb,hgg,h3,h4,h5,h6⟩
 ·simp[Value.ownBlock] at hg
 ·simp[Value.ownBlock] at hg
  subst hg
  refine .inr ⟨g',cap,cur.setIfInBounds off u,rfl,hb,?_,h3,h4,by simpa using h5,?_⟩
  ·simp[World.setCell,Array.getElem?_modify,hgg]
  ·rw[<-h6,Array.toList_setIfInBounds,List.take_set]
theorem zce{w:World}{base:Nat}{e:TypeId}{size:Nat}{v:Value}{n:Nat}{xs:List Value}(h:w.ownsRow base e size v n xs){g:Nat}(hg:v.ownBlock=some g)(off:Nat):w.frozen? ⟨g,off,none⟩=false:=by
 rcases h.2 with⟨rfl,h0⟩ | ⟨g',cap,cur,rfl,hb,hgg,h3⟩
 ·simp[Value.ownBlock] at hg
 ·simp[Value.ownBlock] at hg
  subst hg
  simp[World.frozen?,hgg]
def OwnW(w:World)(v:Value)(l:List Wd):Prop:=w.ownsRow 0 186 5 v l.length (wdV l)
theorem OwnW.at{w:World}{v:Value}{l:List Wd}(h:OwnW w v l)(hm:l.length<=1000000):∃ q cap,v=.slice q l.length cap/\l.length<=cap/\RowW w q l/\(q=none->l=[])/\(∀ a,q=some a->a=⟨a.block,0,none⟩/\v.ownBlock=some a.block):=by
 rcases h.2 with⟨rfl,h0⟩ | ⟨g,cap,cur,rfl,h1,h2,h3,h4,h5,h6⟩
 ·have:l=[]:=List.eq_nil_of_length_eq_zero h0
  subst this
  exact⟨none,0,rfl,Nat.le_refl _,⟨by simp,fun i hi=>by cases hi⟩,fun _=>rfl,fun a e=>by cases e⟩
 ·refine⟨some ⟨g,0,none⟩,cap,rfl,h3,⟨hm,fun i hi=>⟨g,rfl,?_⟩⟩,(fun e=>by cases e),(fun a e=>by cases e;exact⟨rfl,rfl⟩)⟩
  have hc:∀ j u,j < 5->(l[i]'hi).vals[j]? = some u->w.cell? ⟨g,0+i * 5+j,none⟩=some u:=fun j u hj hu=>by
   have:=World.ownsRow.cells (g:=g) h rfl (i * 5+j) u (by rw[zkj l i hi j hj];exact hu)
   rw[zf7] at this
   rw[Nat.add_assoc]
   exact this
  exact⟨hc 0 _ (by omega) rfl,hc 1 _ (by omega) rfl,hc 2 _ (by omega) rfl,hc 3 _ (by omega) rfl,hc 4 _ (by omega) rfl⟩
theorem OwnW.kp{X:List Nat}{w w':World}{v:Value}{l:List Wd}(h:OwnW w v l)(hk:Kp X w w')(hX:∀ k,v.ownBlock=some k->k∉X):OwnW w' v l:=by
 refine⟨h.1,?_⟩
 rcases h.2 with hn | ⟨g,cap,cur,rfl,hb,hgg,rest⟩
 ·exact .inl hn
 ·exact .inr ⟨g,cap,cur,rfl,hb,(hk.block g (sz hgg) (hX g rfl)).trans hgg,rest⟩
theorem OwnW.ne{w:World}{v:Value}{l:List Wd}(h:OwnW w v l){c:Nat}{a:Array Value}{t:TypeId}{f:Nat×Nat}(hc:w.heap[c]? = some (.cells a t f))(ht:t≠186):v.ownBlock≠some c:=by
 intro e
 rcases h.2 with⟨rfl,h0⟩ | ⟨g,cap,cur,rfl,h1,h2,_⟩
 ·cases e
 ·simp[Value.ownBlock] at e
  subst e
  rw[hc] at h2
  simp only[Option.some.injEq,Obj.cells.injEq] at h2
  exact ht h2.2.1
theorem OwnW.lt{w:World}{v:Value}{l:List Wd}(h:OwnW w v l){k:Nat}(hk:v.ownBlock=some k):k < w.heap.size:=(World.ownsRow.lt h k hk).2
def zw:Wd:=⟨0,0,0,0,0⟩
theorem zlj:(Tryz.prog.info? 186).map (fun i=>(i.zero,i.size,i.bytes))=some (some (.agg #[.int .i64 0,.int .i32 0,.int .u16 0,.int .u8 0,.int .u8 0]),5,16):=by kernel_rfl
theorem zgi:Tryz.prog.underlying 89=some (.slice 186):=by kernel_rfl
theorem int3:Tryz.prog.underlying 3=some (.int .i64):=by kernel_rfl
theorem zeroW(k:Nat):(Builtin.zeroCells #[.int .i64 0,.int .i32 0,.int .u16 0,.int .u8 0,.int .u8 0] k).toList=wdV (List.replicate k zw):=by
 apply List.ext_getElem?
 intro i
 by_cases hi:i < k * 5
 ·have h1:i / 5 < (List.replicate k zw).length:=by simp;omega
  have h2:=zkj (List.replicate k zw) (i / 5) h1 (i % 5) (by omega)
  rw[show i / 5 * 5+i % 5=i by omega] at h2
  rw[h2,List.getElem_replicate]
  have h3:i % 5=0\/i % 5=1\/i % 5=2\/i % 5=3\/i % 5=4:=by omega
  rcases h3 with h | h | h | h | h <;> simp[Builtin.zeroCells,hi,h,zw,Wd.vals]
 ·rw[List.getElem?_eq_none,List.getElem?_eq_none]
  ·rw[za7];simp;omega
  ·simp[Builtin.zeroCells];omega
theorem zf8{w:World}{v:Value}{L:List Wd}(ho:OwnW w v L)(k:Nat)(hk:0 < k)(hl:L.length+k<=2000000)(ty:TypeId) :
  ∃ g cap w',(Builtin.append_ #[89,3] ty #[v,.int .i64 k]).run Tryz.prog w=.ok (.slice (some ⟨g,0,none⟩) (L.length+k) cap) w'/\OwnW w' (.slice (some ⟨g,0,none⟩) (L.length+k) cap) (L++List.replicate k zw)/\w.grownBy w' v.ownBlock/\(v.ownBlock=some g\/g=w.heap.size)/\L.length+k<=cap:=by
 obtain⟨i0,hi0,hz0,hz1,hz2⟩:=zap zlj
 have hlen:(L++List.replicate k zw).length=L.length+k:=by simp
 have hxs:(wdV L).toArray.size=L.length * 5:=by simp[za7]
 have hzl:(Builtin.zeroCells #[.int .i64 0,.int .i32 0,.int .u16 0,.int .u8 0,.int .u8 0] k).size=k * 5:=by simp[Builtin.zeroCells]
 have hcells:(Value.agg #[.int .i64 0,.int .i32 0,.int .u16 0,.int .u8 0,.int .u8 0]).cells=#[.int .i64 0,.int .i32 0,.int .u16 0,.int .u8 0,.int .u8 0]:=by kernel_rfl
 have grown:∀ old,old < L.length+k->∀ row:Option Nat,
   OwnW (w.drew.alloc (.cells ((wdV L).toArray++Builtin.zeroCells #[.int .i64 0,.int .i32 0,.int .u16 0,.int .u8 0,.int .u8 0] k++Builtin.zeroCells #[.int .i64 0,.int .i32 0,.int .u16 0,.int .u8 0,.int .u8 0] (grownCap w (L.length+k) old 186 - (L.length+k))) 186)) (.slice (some ⟨w.heap.size,0,none⟩) (L.length+k) (grownCap w (L.length+k) old 186)) (L++List.replicate k zw)/\
   w.grownBy (w.drew.alloc (.cells ((wdV L).toArray++Builtin.zeroCells #[.int .i64 0,.int .i32 0,.int .u16 0,.int .u8 0,.int .u8 0] k++Builtin.zeroCells #[.int .i64 0,.int .i32 0,.int .u16 0,.int .u8 0,.int .u8 0] (grownCap w (L.length+k) old 186 - (L.length+k))) 186)) row:=by
  intro old ho' row
  have hge:=grownCap_ge w (L.length+k) old 186
  have hcm:=grownCap_le_maxLen w (L.length+k) old 186 (by unfold maxLen;omega)
  refine⟨⟨by rw[za7],.inr ⟨w.heap.size,_,_,by rw[hlen],Nat.zero_le _,heap_alloc_new w.drew _,by rw[hlen];exact hge,hcm,?_,?_⟩⟩,⟨rfl,rfl,rfl,by simp,fun j hj _=>Below.heap_alloc w.drew _ j hj⟩⟩
  ·simp only[Array.size_append,hxs,hzl,size_zeroCells]
   simp only[List.size_toArray,List.length_cons,List.length_nil]
   omega
  ·simp only[Array.toList_append,zeroW,List.append_assoc]
   rw[<-List.append_assoc,zcl,hlen]
   have e:(L.length+k) * 5=(wdV L++wdV (List.replicate k zw)).length:=by simp[za7];omega
   rw[e]
   exact List.take_left
 rcases ho.2 with⟨rfl,h0⟩ | ⟨g,cap,cur,rfl,hbg,hg,hnc,hcm,hcs,htake⟩
 ·have hL:L=[]:=List.eq_nil_of_length_eq_zero h0
  subst hL
  have hr:=Lib.run_append_nil_zeros (P:=Tryz.prog) w 89 3 ty 186 i0 _ .i64 .i64 zgi int3 hi0 hz0 k hk (by rw[hz1];decide) (by simp at hl;omega) (by rw[hz2];simp at hl;omega)
  obtain⟨g1,g2⟩:=grown 0 (by simpa using hk) (Value.ownBlock (.slice none 0 0))
  rw[hcells] at hr
  simp only[List.length_nil,Nat.zero_add,List.nil_append,wdV,List.flatMap_nil,Array.empty_append] at hr g1 g2 ⊢
  exact⟨_,_,_,hr,g1,g2,.inr rfl,grownCap_ge w k 0 186⟩
 ·by_cases hroom:L.length+k<=cap
  ·have hst:=run_storeCells_at Tryz.prog g (L.length * 5) 186 (wdV (List.replicate k zw)) 0 cur w hg (by rw[za7,hcs];simp;omega) (zov _)
   simp only[Nat.add_zero] at hst
   have hr:(Builtin.append_ #[89,3] ty #[.slice (some ⟨g,0,none⟩) L.length cap,.int .i64 k]).run Tryz.prog w=.ok (.slice (some ⟨g,0,none⟩) (L.length+k) cap) (w.setRow g (cur.toList.take (L.length * 5)++wdV (List.replicate k zw)++cur.toList.drop (L.length * 5+(wdV (List.replicate k zw)).length)).toArray):=by
    have hw:IntKind.i64.wrap (k:Int)=k:=by rw[IntKind.wrap_i64];omega
    have hneg:¬ ((k:Int) < 0):=by omega
    have h48i:¬ (281474976710656 < (k:Int) * 16):=by omega
    have hzz:Builtin.zeroCells #[.int .i64 0,.int .i32 0,.int .u16 0,.int .u8 0,.int .u8 0] k=(wdV (List.replicate k zw)).toArray:=by rw[<-zeroW]
    simp[Builtin.append_,run_underlying zgi,run_underlying int3,sizeOf,typeInfo,zeroValue,hi0,hz0,hz1,hz2,asInt,asIntOf,hw,hneg,h48i,hroom,hcells,Addr.add_lit,hst,hzz]
    omega
   refine⟨g,cap,_,hr,⟨by rw[za7],.inr ⟨g,cap,_,by rw[hlen],hbg,setRow_heap w g cur _ 186 _ hg,by rw[hlen];exact hroom,hcm,?_,?_⟩⟩,⟨rfl,rfl,rfl,by simp,fun j _ hj=>setRow_other w g j _ (fun e=>hj (by simp[Value.ownBlock,e]))⟩,.inl rfl,hroom⟩
   ·simp only[List.size_toArray,lA,List.length_take,List.length_drop,Array.length_toList,za7,List.length_replicate]
    omega
   ·rw[htake,hlen,zcl]
    have e:(L.length+k) * 5=(wdV L++wdV (List.replicate k zw)).length:=by simp[za7];omega
    rw[e]
    exact List.take_left
  ·have holds:∀ j u,(wdV L)[j]? = some u->w.drew.cell? ((⟨g,0,none⟩:Addr).add j)=some u:=fun j u hj=>World.ownsRow.cells (g:=g) ho rfl j u hj
   have hf:=run_firstCells_some (P:=Tryz.prog) w.drew i0.size L.length ⟨g,0,none⟩ L.length cap (wdV L) (by rw[hz1,za7]) holds
   have hr:=Lib.run_append_grow_zeros (P:=Tryz.prog) w 89 3 ty 186 i0 _ .i64 .i64 zgi int3 hi0 hz0 (some ⟨g,0,none⟩) L.length cap (wdV L) hf k hk (by rw[hz1];decide) (by omega) (by omega) (by rw[hz2];omega) (growslice_fits (by omega) (by rw[hz2];omega))
   obtain⟨g1,g2⟩:=grown cap (by omega) (Value.ownBlock (.slice (some ⟨g,0,none⟩) L.length cap))
   rw[hcells] at hr
   exact⟨_,_,_,hr,g1,g2,.inr rfl,grownCap_ge w _ _ _⟩
structure HpO(w:World)(hb:Nat)(cells first:Int)(v:Value)(ws:List Wd):Prop where
 box:w.heap[hb]? = some (.cells #[.int .i64 cells,.int .i64 first,v] 91)
 own:OwnW w v ws
 len:ws.length<=1000000
 pos:0 < first/\first<=9000000000000000000
theorem HpO.at{w:World}{hb:Nat}{cells first:Int}{v:Value}{ws:List Wd}(h:HpO w hb cells first v ws):∃ p cap,v=.slice p ws.length cap/\HpAt w hb 0 cells first p cap ws/\(∀ a,p=some a->a=⟨a.block,0,none⟩/\v.ownBlock=some a.block):=by
 obtain⟨p,cap,rfl,hc,hr,_,ha⟩:=h.own.at h.len
 have hb':=h.box
 exact⟨p,cap,rfl,⟨by simp only[World.cell?,hb'];rfl,by simp only[World.cell?,hb'];rfl,by simp only[World.cell?,hb'];rfl,hr,h.pos,hc⟩,ha⟩
theorem HpO.kp{X:List Nat}{w w':World}{hb:Nat}{cells first:Int}{v:Value}{ws:List Wd}(h:HpO w hb cells first v ws)(hk:Kp X w w')(hX:hb∉X)(hY:∀ k,v.ownBlock=some k->k∉X):HpO w' hb cells first v ws:=
 ⟨(hk.block hb (sz h.box) hX).trans h.box,h.own.kp hk hY,h.len,h.pos⟩
def fld(c:Cl):Wd:=⟨c.n,0,0,0,if c.p=true then 1 else 0⟩
theorem zxp(c:Cl):(fld c).cl=c:=by
 obtain⟨p,n⟩:=c
 cases p <;> rfl
inductive SetPost(w:World)(hb:Nat)(cells first:Int)(v:Value)(ws:List Wd)(k:Nat)(c:Cl):Ending->World->Prop
 | mk (w':World) (h1:HpO w' hb cells first v (ws.set k (fld c))) (h2:Kp v.ownBlock.toList w w'):SetPost w hb cells first v ws k c (.returned (.tuple #[])) w'
theorem zvk(w:World)(hb:Nat)(cells first:Int)(v:Value)(ws:List Wd)(h:HpO w hb cells first v ws)(j:Nat)(x:Wd)(hx:Hd ws j x)(i:Nat)(hi:(i:Int) < x.n)(c:Cl) :
  Calls Tryz.prog 52 #[.pointer (some ⟨hb,0,none⟩),.int .i64 (first+j),.int .i64 i,c.val] w fun e w'=>SetPost w hb cells first v ws (j+1+i) c e w':=by
 obtain⟨p,cap,rfl,hA,ha⟩:=h.at
 obtain⟨cp,cn⟩:=c
 simp only[Cl.val]
 have hk1:Kp [] w (w.alloc (.cells #[.bool cp,.int .i64 cn] 67)):=Kp.alloc _ _ _
 have Hg1:Hid ((w.alloc (.cells #[.bool cp,.int .i64 cn] 67)).heap[w.heap.size]? = some (.cells #[.bool cp,.int .i64 cn] 67)):=zab w _
 have Hk1:=zh hk1
 have Hcall:Hid _:=zhw _ hb 0 cells first p cap ws (hA.kp hk1) j x hx i hi
 have hf:=hx.fits
 have hn:=hx.n
 have hkl:j+1+i < ws.length:=by omega
 have H:=zh h
 have Ha:=zh ha
 clear h hx hA hk1 hf hn ha
 go_enter Tryz.func52,Tryz.ntmps52
 go_wp2_with fail
 generalize w.alloc _=w1 at *
 refine cM Hcall.o ?_
 rintro e w2 ⟨⟨b,hp,rfl⟩,hb2⟩
 have hob:Value.ownBlock (.slice p ws.length cap)=some b:=(Ha.o _ hp).2
 have hK2:Kp [] w w2:=Hk1.o.trans (Kp.zB hb2)
 have hO2:=H.o.kp hK2 (by simp) (by simp)
 have hbl:=H.o.own.lt hob
 have hbx:w2.heap[w.heap.size]? = some (.cells #[.bool cp,.int .i64 cn] 67):=(hb2.block _ (sz Hg1.o)).trans Hg1.o
 have hlt:=(sz hbx)
 have hne:w.heap.size≠b:=by omega
 have hc0:w2.cell? ⟨w.heap.size,0,none⟩=some (.bool cp):=by simp only[World.cell?,hbx];rfl
 have hc1:w2.cell? ⟨w.heap.size,1,none⟩=some (.int .i64 cn):=by simp only[World.cell?,hbx];rfl
 obtain⟨q0,c0,hv0,_,hr0,_,ha0⟩:=hO2.own.at hO2.len
 cases hv0
 have hy:ws[j+1+i]? = some (ws[j+1+i]'hkl):=gE hkl
 obtain⟨b',hp',⟨g0,g1,g2,g3,g4⟩,g5⟩:=hr0.at_ hy
 rw[hp] at hp'
 cases hp'
 rw[show 0+(j+1+i) * 5=j * 5+(i+1) * 5 by omega] at g0 g1 g2 g3 g4
 have hfz:∀ off,w2.frozen? ⟨b,off,none⟩=false:=fun off=>zce hO2.own hob off
 have z0:=hfz (j * 5+(i+1) * 5)
 have z1:=hfz (j * 5+(i+1) * 5+1)
 have z2:=hfz (j * 5+(i+1) * 5+2)
 have z3:=hfz (j * 5+(i+1) * 5+3)
 have z4:=hfz (j * 5+(i+1) * 5+4)
 have hown5:∀ m:Int,OwnW (((((w2.setCell ⟨b,j * 5+(i+1) * 5,none⟩ (.int .i64 cn)).setCell ⟨b,j * 5+(i+1) * 5+1,none⟩ (.int .i32 0)).setCell ⟨b,j * 5+(i+1) * 5+2,none⟩ (.int .u16 0)).setCell ⟨b,j * 5+(i+1) * 5+3,none⟩ (.int .u8 0)).setCell ⟨b,j * 5+(i+1) * 5+4,none⟩ (.int .u8 m)) (.slice p ws.length cap) (ws.set (j+1+i) ⟨cn,0,0,0,m⟩):=fun m=>by
  have h1:=za2 (za2 (za2 (za2 (za2 hO2.own hob (j * 5+(i+1) * 5) (.int .i64 cn)) hob (j * 5+(i+1) * 5+1) (.int .i32 0)) hob (j * 5+(i+1) * 5+2) (.int .u16 0)) hob (j * 5+(i+1) * 5+3) (.int .u8 0)) hob (j * 5+(i+1) * 5+4) (.int .u8 m)
  have h2:=zou ws (j+1+i) hkl ⟨cn,0,0,0,m⟩
  rw[show(j+1+i) * 5=j * 5+(i+1) * 5 by omega] at h2
  unfold OwnW
  rw[List.length_set,<-h2]
  exact h1
 have hkp5:∀ m:Int,Kp [b] w2 (((((w2.setCell ⟨b,j * 5+(i+1) * 5,none⟩ (.int .i64 cn)).setCell ⟨b,j * 5+(i+1) * 5+1,none⟩ (.int .i32 0)).setCell ⟨b,j * 5+(i+1) * 5+2,none⟩ (.int .u16 0)).setCell ⟨b,j * 5+(i+1) * 5+3,none⟩ (.int .u8 0)).setCell ⟨b,j * 5+(i+1) * 5+4,none⟩ (.int .u8 m)):=fun m=>
  ((((Kp.setCell _ ⟨b,_,none⟩ (by simp) _).trans (Kp.setCell _ ⟨b,_,none⟩ (by simp) _)).trans (Kp.setCell _ ⟨b,_,none⟩ (by simp) _)).trans (Kp.setCell _ ⟨b,_,none⟩ (by simp) _)).trans (Kp.setCell _ ⟨b,_,none⟩ (by simp) _)
 have hpost:∀ (m:Int) (w':World),OwnW w' (.slice p ws.length cap) (ws.set (j+1+i) ⟨cn,0,0,0,m⟩)->Kp [b] w2 w'->∀ cp,m=(if cp=true then 1 else 0)->SetPost w hb cells first (.slice p ws.length cap) ws (j+1+i) ⟨cp,cn⟩ (.returned (.tuple #[])) w':=fun m w' ho hk cp hm=>by
  have hne2:hb≠b:=fun e=>H.o.own.ne H.o.box (by decide) (e ▸ hob)
  refine SetPost.mk w' ⟨(hk.block hb (sz hO2.box) (by simpa using hne2)).trans hO2.box,?_,by rw[List.length_set];exact H.o.len,H.o.pos⟩ (by rw[hob];exact(hK2.mono (by simp)).trans hk)
  unfold fld
  rw[<-hm]
  exact ho
 have Hpost:=zh hpost
 have hset6:OwnW ((((((w2.setCell ⟨b,j * 5+(i+1) * 5,none⟩ (.int .i64 cn)).setCell ⟨b,j * 5+(i+1) * 5+1,none⟩ (.int .i32 0)).setCell ⟨b,j * 5+(i+1) * 5+2,none⟩ (.int .u16 0)).setCell ⟨b,j * 5+(i+1) * 5+3,none⟩ (.int .u8 0)).setCell ⟨b,j * 5+(i+1) * 5+4,none⟩ (.int .u8 0)).setCell ⟨b,j * 5+(i+1) * 5+4,none⟩ (.int .u8 1)) (.slice p ws.length cap) (ws.set (j+1+i) ⟨cn,0,0,0,1⟩):=by
  have hkl2:j+1+i < (ws.set (j+1+i) ⟨cn,0,0,0,0⟩).length:=by simpa using hkl
  have h1:=za2 (hown5 0) hob (j * 5+(i+1) * 5+4) (.int .u8 1)
  have h2:=zsa (ws.set (j+1+i) ⟨cn,0,0,0,0⟩) (j+1+i) hkl2 1
  rw[show(j+1+i) * 5+4=j * 5+(i+1) * 5+4 by omega,List.getElem_set_self,List.set_set] at h2
  unfold OwnW
  rw[<-h2,List.length_set]
  rw[List.length_set] at h1
  exact h1
 have Q0:Hid _:=hpost 0 _ (hown5 0) (hkp5 0) false rfl
 have Q1:Hid _:=hpost 1 _ hset6 ((hkp5 0).trans (Kp.setCell _ ⟨b,j * 5+(i+1) * 5+4,none⟩ (by simp) _)) true rfl
 clear hfz hpost hown5 hkp5 hset6 hO2 hK2 hb2 hr0 ha0
 cases cp
 ·go_wp2_with fail
  go_end0
  exact Q0.o
 ·go_wp2_with fail
  go_end0
  exact Q1.o
inductive TakePost(w:World)(hb o:Nat)(v:Value)(ws:List Wd)(k:Nat):Ending->World->Prop
 | mk (g cap:Nat) (w3:World) (h1:OwnW w3 (.slice (some ⟨g,0,none⟩) (ws.length+k) cap) (ws++List.replicate k zw)) (h2:w.grownBy w3 v.ownBlock) (h3:v.ownBlock=some g\/g=w.heap.size) (h4:ws.length+k<=cap) :
  TakePost w hb o v ws k (.returned (.slice (some ⟨g,ws.length * 5,none⟩) k (cap - ws.length))) (w3.setCell ⟨hb,o+2,none⟩ (.slice (some ⟨g,0,none⟩) (ws.length+k) cap))
theorem zlx(w:World)(hb o:Nat)(v:Value)(ws:List Wd)(hc:w.cell? ⟨hb,o+2,none⟩=some v)(hf:w.frozen? ⟨hb,o+2,none⟩=false)(hne:v.ownBlock≠some hb)(ho:OwnW w v ws)(k:Nat)(hk:0 < k)(hl:ws.length<=1000000)(hlk:ws.length+k<=2000000) :
  Calls Tryz.prog 118 #[.pointer (some ⟨hb,o,none⟩),.int .i64 k] w fun e w'=>TakePost w hb o v ws k e w':=by
 obtain⟨p,cap,rfl,hcap,_,_,_⟩:=ho.at hl
 have hlt:=World.block_lt_of_cell? _ _ hc
 obtain⟨g,cap',w3,hrun,ho3,hg3,hat,hc4⟩:=zf8 ho k hk hlk 89
 have hb3:=hg3.block hb hlt (fun e=>hne e.symm)
 have hc3:w3.cell? ⟨hb,o+2,none⟩=some (.slice p ws.length cap):=(World.cell?_of_block (w:=w) hb3).trans hc
 have hf3:w3.frozen? ⟨hb,o+2,none⟩=false:=(World.frozen?_of_block (w:=w) hb3).trans hf
 have hlt3:=lL hlt hg3.size
 have Q:Hid (TakePost w hb o (.slice p ws.length cap) ws k (.returned (.slice (some ⟨g,ws.length * 5,none⟩) k (cap' - ws.length))) (w3.setCell ⟨hb,o+2,none⟩ (.slice (some ⟨g,0,none⟩) (ws.length+k) cap'))):=TakePost.mk g cap' w3 ho3 hg3 hat hc4
 have hcell:(w3.setCell ⟨hb,o+2,none⟩ (.slice (some ⟨g,0,none⟩) (ws.length+k) cap')).cell? ⟨hb,o+2,none⟩=some (.slice (some ⟨g,0,none⟩) (ws.length+k) cap'):=World.cell?_setCell_same' _ _ _ (by rw[hc3];rfl)
 have hltc:hb < (w3.setCell ⟨hb,o+2,none⟩ (.slice (some ⟨g,0,none⟩) (ws.length+k) cap')).heap.size:=by simpa [World.setCell] using hlt3
 have h1:ws.length<=ws.length+k:=by omega
 have h2:ws.length < cap':=by omega
 have h3:ws.length+k - ws.length=k:=by omega
 clear ho ho3 hg3 hb3
 go_enter Tryz.func118,Tryz.ntmps118
 go_wp2_with (at_builtin;refine Lib.wpList_append_run _ rfl _ _ _ _ rfl _ _ rfl rfl _ _ hrun ?_)
 exact bR (by simp[results,Tryz.results118,go_sem]) Q.o
theorem zvv(w:World)(cells:Int)(hc:0<=cells/\cells<=1000000):Calls Tryz.prog 13 #[.int .i64 cells] w fun e w'=>e=.returned (.tuple #[.pointer (some ⟨w.heap.size,0,none⟩),.int .i64 0])/\w'=w.alloc (.cells #[.int .i64 cells,.int .i64 1,.slice none 0 0] 91):=by
 have h1:¬ (cells < 0):=by omega
 have h2:¬ (1000000 < cells):=by omega
 go_enter Tryz.func13,Tryz.ntmps13
 go_wp2
 exact bR (by simp[results,Tryz.results13,go_sem]) ⟨rfl,rfl⟩
theorem zw5(w:World)(cells:Int)(hc:cells < 0\/1000000 < cells):Calls Tryz.prog 13 #[.int .i64 cells] w fun e w'=>e=.returned (.tuple #[.pointer none,.int .i64 21])/\w'=w:=by
 by_cases h1:cells < 0
 ·go_enter Tryz.func13,Tryz.ntmps13
  go_wp2
  exact bR (by simp[results,Tryz.results13,go_sem]) ⟨rfl,rfl⟩
 ·have h2:1000000 < cells:=by omega
  go_enter Tryz.func13,Tryz.ntmps13
  go_wp2
  exact bR (by simp[results,Tryz.results13,go_sem]) ⟨rfl,rfl⟩
end Go.Proofs.YtkcmachfagcnaaaGreatDoor
