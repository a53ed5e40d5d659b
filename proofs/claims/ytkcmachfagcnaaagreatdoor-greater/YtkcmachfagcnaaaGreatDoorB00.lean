/- Part of Greater. -/
import Derived.Tactics
import Derived.Below
import Derived.Test.YtkcmachfagcnaaaGreatDoorRows
import Derived.WalkKit
import Derived.WalkSpells
import Derived.WalkLawsBesides
import Derived.Deep.Slices
import Derived.Deep.Heap
import Derived.RegionTactic
import Derived.BigRegion
import Derived.BigFrame
import Derived.BigQuiet
import Derived.Deep.LoopGhost
import Derived.Deep.Cut
import Derived.Deep.CutBlock
import Derived.Deep.CutRange
import Derived.Deep.QuietTactic
import Derived.Deep.RegionWith
import Derived.Deep.RegionLaw
import Derived.Deep.AppendLies
import Derived.Maps.AppendAt
import Derived.Maps.OwnSet
import Derived.Maps.OwnOps
import Derived.OwnWalk
namespace Go.Proofs.YtkcmachfagcnaaaGreatDoor
open Go.RowKit
theorem sz {α : Type} {xs : Array α} {i : Nat} {a : α} (h : xs[i]? = some a) : i < xs.size := (Array.getElem?_eq_some_iff.1 h).1
theorem _root_.Go.RowKit.Hid.o {p : Prop} (h : Hid p) : p := h
theorem zh {p : Prop} (h : p) : Hid p := h
theorem xI {α : Type} {A B : α → Prop} {v : α} (h : A v) (k : B v) : ∃ v, A v ∧ B v := ⟨v, h, k⟩
theorem cM {P : Program} {f : FuncId} {args : Array Value} {w : World} {R R' : Ending → World → Prop} (h : Calls P f args w R) (hr : ∀ e w', R e w' → R' e w') : Calls P f args w R' := Calls.mono h hr
theorem bR {P : Program} {fn : Func} {R : Ending → World → Prop} {a : Act} {w : World} {v : Value} (hr : (results fn a.tmps).run P w = .ok v w) (hR : R (.returned v) w) (hd : a.defers = [] := by rfl) : bodyPost P fn R .ret a w := bodyPost_ret hr hd hR
theorem lL {a b c : Nat} (h : a < b) (k : b ≤ c) : a < c := Nat.lt_of_lt_of_le h k
theorem gE {α : Type} {l : List α} {i : Nat} (h : i < l.length) : l[i]? = some l[i] := List.getElem?_eq_getElem h
theorem lA {α : Type} {l k : List α} : (l ++ k).length = l.length + k.length := List.length_append
end Go.Proofs.YtkcmachfagcnaaaGreatDoor
namespace Go.Proofs.YtkcmachfagcnaaaGreatDoor
open Go.RowKit Go.Deep
open Go.Maps (Keyed int_keyed keyOf_int_mk)
def upd{α:Type}(f:Int->α)(x:Int)(v:α):Int->α:=fun y=>if y=x then v else f y
theorem zbf{α:Type}(f:Int->α)(x:Int)(v:α):upd f x v x=v:=if_pos rfl
theorem zav{α:Type}(f:Int->α){x:Int}(v:α){y:Int}(h:y≠x):upd f x v y=f y:=if_neg h
structure Kp(X:List Nat)(w w':World):Prop where
 os:w'.os=w.os
 tape:w'.tape=w.tape
 output:w'.output=w.output
 size:w.heap.size<=w'.heap.size
 block:∀ k,k < w.heap.size->k∉X->w'.heap[k]? = w.heap[k]?
theorem Kp.refl(X:List Nat)(w:World):Kp X w w:=⟨rfl,rfl,rfl,Nat.le_refl _,fun _ _ _=>rfl⟩
theorem Kp.trans{X:List Nat}{a b c:World}(h:Kp X a b)(k:Kp X b c):Kp X a c:=
 ⟨k.os.trans h.os,k.tape.trans h.tape,k.output.trans h.output,Nat.le_trans h.size k.size,fun i hi hx=>(k.block i (lL hi h.size) hx).trans (h.block i hi hx)⟩
theorem Kp.mono{X Y:List Nat}{w w':World}(h:Kp X w w')(hX:∀ x∈X,x∈Y):Kp Y w w':=⟨h.os,h.tape,h.output,h.size,fun k hk hy=>h.block k hk (fun hx=>hy (hX k hx))⟩
theorem Kp.then{X Y:List Nat}{a b c:World}(h:Kp X a b)(k:Kp Y b c)(hY:∀ y∈Y,y∈X\/a.heap.size<=y):Kp X a c:=
 ⟨k.os.trans h.os,k.tape.trans h.tape,k.output.trans h.output,Nat.le_trans h.size k.size,fun i hi hx=>(k.block i (lL hi h.size) (fun hy=>by rcases hY i hy with h | h;exact hx h;omega)).trans (h.block i hi hx)⟩
theorem Kp.alloc(X:List Nat)(w:World)(o:Obj):Kp X w (w.alloc o):=⟨rfl,rfl,rfl,by simp,fun k hk _=>Below.heap_alloc _ _ _ hk⟩
theorem Kp.drew{X:List Nat}{a w:World}(h:Kp X a w):Kp X a w.drew:=⟨h.os,h.tape,h.output,h.size,h.block⟩
theorem Kp.drewN{X:List Nat}{a w:World}(h:Kp X a w)(n:Nat):Kp X a (w.drewN n):=⟨h.os,h.tape,h.output,h.size,h.block⟩
theorem Kp.setCell{X:List Nat}(w:World)(p:Addr)(hp:p.block∈X)(u:Value):Kp X w (w.setCell p u):=
 ⟨rfl,rfl,rfl,by simp[World.setCell],fun k _ hx=>Below.heap_setCell _ _ _ _ (fun e=>hx (e ▸ hp))⟩
theorem Kp.zB{X:List Nat}{w w':World}(h:Below w.heap.size w w'):Kp X w w':=⟨h.os,h.tape,h.output,h.size,fun k hk _=>h.block k hk⟩
theorem Kp.of_grown{X:List Nat}{w w':World}{row:Option Nat}(h:w.grownBy w' row)(hr:∀ k,row=some k->k∈X):Kp X w w':=⟨h.os,h.tape,h.output,h.size,fun k hk hx=>h.block k hk (fun e=>hx (hr k e.symm))⟩
theorem Kp.below{X:List Nat}{w w':World}{B:Nat}(h:Kp X w w')(hB:B<=w.heap.size)(hX:∀ x∈X,B<=x):Below B w w':=
 ⟨h.os,h.tape,h.output,h.size,fun k hk=>h.block k (lL hk hB) (fun hx=>by have:=hX k hx;omega)⟩
theorem Kp.cell{X:List Nat}{w w':World}(h:Kp X w w'){p:Addr}{v:Value}(hc:w.cell? p=some v)(hp:p.block∉X):w'.cell? p=some v:=
 (World.cell?_of_block (w:=w) (h.block p.block (World.block_lt_of_cell? _ _ hc) hp)).trans hc
def heldR:Value->Option (DataW Value×List MemPlace):=fun v=>some (.held v,[])
theorem zmi:Keyed Tryz.prog 3:=int_keyed (q:=.i64) (by kernel_rfl)
def MapAt(w:World)(b n:Nat)(F:Int->Option Value):Prop:=
 ∃ D:DataW Value,w.ownsMap Tryz.prog 3 heldR b n D/\Maps.size D=n/\∀ x,(Lit.int .i64 x).wf=true->Maps.has D (.int .i64 x)=(F x).isSome/\∀ z,D.atKey (.int .i64 x) (.held z)=.held ((F x).getD z)
theorem MapAt.made(w:World):MapAt (w.alloc (.map #[] 0)) w.heap.size 0 (fun _=>none):=⟨.map [],World.ownsMap_made w Tryz.prog 3 heldR,rfl,fun _ _=>⟨rfl,fun _=>rfl⟩⟩
theorem MapAt.lt{w:World}{b n:Nat}{F:Int->Option Value}(h:MapAt w b n F):b < w.heap.size:=by
 obtain⟨D,h1,_⟩:=h
 exact h1.lt
theorem MapAt.kp{X:List Nat}{w w':World}{b n:Nat}{F:Int->Option Value}(h:MapAt w b n F)(hk:Kp X w w')(hb:b∉X):MapAt w' b n F:=by
 have hlt:=h.lt
 obtain⟨D,⟨es,clock,h1,h2⟩,h3⟩:=h
 exact⟨D,⟨es,clock,(hk.block b hlt hb).trans h1,h2⟩,h3⟩
theorem MapAt.ne{w:World}{b n:Nat}{F:Int->Option Value}(h:MapAt w b n F){p:Addr}{v:Value}(hc:w.cell? p=some v):p.block≠b:=by
 obtain⟨D,⟨es,clock,h1,h2⟩,h3⟩:=h
 intro e
 simp[World.cell?,e,h1] at hc
theorem MapAt.lookOk{w:World}{b n:Nat}{F:Int->Option Value}(h:MapAt w b n F){t e:TypeId}(ht:Tryz.prog.underlying t=some (.map 3 e)){z:Value}(hz:∀ w,(zeroValue e).run Tryz.prog w=.ok z w){x:Int}(hx:(Lit.int .i64 x).wf=true) :
  (Instr.lookup t (.map (some b)) (.int .i64 x) true).run Tryz.prog w=.ok (.tuple #[(F x).getD z,.bool (F x).isSome]) w:=by
 obtain⟨D,h1,_,h3⟩:=h
 obtain⟨v,ps,hrun,hv⟩:=h1.look_ok zmi ht (hz w) (zd:=.held z) (zp:=[]) rfl (keyOf_int_mk (by kernel_rfl) hx)
 obtain⟨e1,e2⟩:=h3 x hx
 rw[e2] at hv
 have:v=(F x).getD z:=by
  unfold heldR at hv
  simp only[Option.some.injEq,Prod.mk.injEq] at hv
  exact DataW.held.inj hv.1
 rw[hrun,e1,this]
theorem MapAt.len{w:World}{b n:Nat}{F:Int->Option Value}(h:MapAt w b n F){t e:TypeId}(ht:Tryz.prog.underlying t=some (.map 3 e))(ty:TypeId):(Builtin.len_ #[t] ty #[.map (some b)]).run Tryz.prog w=.ok (.int .i64 n) w:=by
 obtain⟨D,h1,h2,h3⟩:=h
 rw[h1.len ht ty,h2]
theorem tight{w:World}{b n:Nat}{D:DataW Value}(h:w.ownsMap Tryz.prog 3 heldR b n D):w.ownsMap Tryz.prog 3 heldR b (Maps.size D) D:=by
 obtain⟨es,clock,h1,h2,h3,rfl⟩:=h
 refine⟨es,clock,h1,h2,?_,rfl⟩
 simp[Maps.size,Go.length_sorted]
theorem MapAt.store{w:World}{b n:Nat}{F:Int->Option Value}(h:MapAt w b n F){t e:TypeId}(ht:Tryz.prog.underlying t=some (.map 3 e))(hn:n < maxLen){x:Int}(hx:(Lit.int .i64 x).wf=true)(v:Value) :
  ∃ w',(Instr.mapUpdate t (.map (some b)) (.int .i64 x) v).run Tryz.prog w=.ok () w'/\MapAt w' b (if(F x).isSome=true then n else n+1) (upd F x (some v))/\Kp [b] w w':=by
 obtain⟨D,h1,h2,h3⟩:=h
 have hkey:=keyOf_int_mk (P:=Tryz.prog) (k:=3) (q:=.i64) (by kernel_rfl) hx
 obtain⟨w',hrun,hown,hg⟩:=h1.update zmi ht hn hkey (d:=.held v) (ps:=[]) (val:=v) rfl
 have htidy:=h1.tidy zmi
 have hkl:WideAt.IsKeyLit (Lit.int .i64 x):=by
  have:=(zmi).one
  trivial
 refine⟨w',hrun,⟨D.put (.int .i64 x) (.held v),?_,?_,?_⟩,Kp.of_grown hg (by rintro k ⟨⟩;simp)⟩
 ·have:=tight hown
  rw[Maps.size_put htidy,(h3 x hx).1] at this
  rw[h2] at this
  exact this
 ·rw[Maps.size_put htidy,(h3 x hx).1,h2]
 ·intro y hy
  by_cases hxy:y=x
  ·subst hxy
   rw[zbf]
   exact⟨Maps.has_put_same htidy.isMap hkl _,fun z=>Maps.atKey_put_same htidy.isMap hkl _ _⟩
  ·rw[zav _ _ hxy,Maps.has_put_other (by simpa using hxy),(h3 y hy).1]
   exact⟨rfl,fun z=>by rw[Maps.atKey_put_other (by simpa using hxy)];exact(h3 y hy).2 z⟩
end Go.Proofs.YtkcmachfagcnaaaGreatDoor
namespace Go.Proofs.YtkcmachfagcnaaaGreatDoor
open Go.RowKit Go.Deep
theorem kr {w : World} : Kp [] w w := Kp.refl [] w
theorem kA {w : World} {o : Obj} : Kp [] w (w.alloc o) := Kp.alloc [] w o
section
variable{P:Program}{ops:Array Oper}{Q:Exit->Act->World->Prop}{md:Region.Mode}{C:World->Prop}
def anyIn(P:Program)(md:Region.Mode)(ops:Array Oper)(Q:Exit->Act->World->Prop)(C:World->Prop):Nat->Array Bool->Act->World->Prop
 | 0,listed,a,w=>C w/\Region.ready md ops listed=[]/\Q .normal a w
 | n+1,listed,a,w=>C w/\(Region.ready md ops listed=[]->Q .normal a w)/\∀ i∈Region.ready md ops listed,wpOp P ops Q i (anyIn P md ops Q C n (listed.setIfInBounds i true)) a w
theorem zke:∀ (n:Nat) (listed:Array Bool) (a:Act) (w:World),anyIn P md ops Q C n listed a w->wpAny P md ops Q n listed a w
 | 0,_,_,_,h=>h.2
 | n+1,_,_,_,h=>⟨h.2.1,fun i hi=>wpOp_mono (fun a' w' h'=>zke n _ a' w' h') (h.2.2 i hi)⟩
theorem zr7{n:Nat}{listed:Array Bool}{a:Act}{w:World}(h:anyIn P md ops Q C n listed a w):C w:=by
 cases n with
 | zero=>exact h.1
 | succ n=>exact h.1
def zG(P:Program)(ops:Array Oper)(C:World->Prop)(o:Oper)(v:Value)(a:Act):Prop:=
 (Region.wanted o (yielded ops a.tmps)=true/\∀ w,C w->(execOp a.eval o).run P w=.ok (.value v) w)\/(Region.wanted o (yielded ops a.tmps)=false/\v=undef)
theorem zG.op{i:Nat}{o:Oper}{v:Value}{a:Act}(hi:ops[i]? = some o)(hy:zG P ops C o v a){K:Act->World->Prop}{w:World}(hw:C w)(h:K (a.put o.dst v) w):wpOp P ops Q i K a w:=by
 unfold wpOp
 simp only[hi]
 rcases hy with⟨h1,h2⟩ | ⟨h1,rfl⟩
 ·rw[if_pos h1]
  left
  unfold Oper.wp
  rw[h2 w hw]
  exact h
 ·rw[if_neg (by simp[h1])]
  exact h
theorem zG.keep{o:Oper}{v:Value}{a a':Act}(hy:zG P ops C o v a)(he:execOp a'.eval o=execOp a.eval o)(hw:Region.wanted o (yielded ops a'.tmps)=Region.wanted o (yielded ops a.tmps)):zG P ops C o v a':=by
 unfold zG
 rw[he,hw]
 exact hy
theorem zid{j:Nat}{oi oj:Oper}{v:Value}(hj:ops[j]? = some oj)(hap:oi.apart ops oj=true)(hsi:∀ cs b,oi.op≠.select cs b)(hsj:∀ cs b,oj.op≠.select cs b)
  (hQ:∀ c a w,Q (.panic c) (a.put oi.dst v) w->Q (.panic c) a w) {K:Act->World->Prop} {a:Act} {w:World} (hy:zG P ops C oi v a) (h:wpOp P ops Q j K (a.put oi.dst v) w) :
  wpOp P ops Q j (fun a' w'=>zG P ops C oi v a'/\K (a'.put oi.dst v) w') a w:=by
 obtain⟨h1,h2,h3⟩:=Oper.apart_spec hap
 have hk:∀ (b:Act),zG P ops C oi v b->∀ u,zG P ops C oi v (b.put oj.dst u):=fun b hb u=>hb.keep (execOp_put oi hsi b oj.dst u h3) (wanted_put oi b oj.dst u h3)
 have hput:∀ u,(fun a' w'=>zG P ops C oi v a'/\K (a'.put oi.dst v) w') (a.put oj.dst u)=fun w'=>zG P ops C oi v (a.put oj.dst u)/\K ((a.put oi.dst v).put oj.dst u) w':=fun u=>by
  funext w'
  simp only[<-Act.put_comm a v u h2]
 unfold wpOp at h ⊢
 simp only[hj] at h ⊢
 rw[wanted_put oj a oi.dst v h1] at h
 by_cases hw:Region.wanted oj (yielded ops a.tmps)=true
 ·rw[if_pos hw] at h ⊢
  rcases h with h | ⟨ha,hl⟩
  ·left
   unfold Oper.wp at h ⊢
   rw[execOp_put oj hsj a oi.dst v h1] at h
   generalize (execOp a.eval oj).run P w=r at h ⊢
   match r,h with
   | .ok (.value u) w',h=>exact(congrFun (hput u) w').mpr ⟨hk a hy u,h⟩
   | .ok .skip w',h=>exact(congrFun (hput undef) w').mpr ⟨hk a hy undef,h⟩
   | .ok (.defer d) w',h=>
    refine⟨hk {a with defers:=d :: a.defers} (hy.keep (a':={a with defers:=d :: a.defers}) rfl rfl) undef,?_⟩
    rw[<-Act.put_comm _ v undef h2,<-Act.put_defers]
    exact h
   | .ok (.enter f args) w',h=>
    refine cM h fun e w'' he=>?_
    match e,he with
    | .returned u,he=>exact(congrFun (hput u) w'').mpr ⟨hk a hy u,he⟩
    | .panicked c,he=>exact hQ _ _ _ he
    | .outgrown,he=>exact he
   | .ok (.row row args) w',h=>exact Rows.mono h fun u w'' he=>(congrFun (hput u) w'').mpr ⟨hk a hy u,he⟩
   | .halt (.panic u) w',h=>exact hQ _ _ _ h
  ·right
   unfold Oper.asks at ha ⊢
   rw[execOp_put oj hsj a oi.dst v h1] at ha
   exact⟨ha,hl⟩
 ·rw[if_neg hw] at h ⊢
  exact(congrFun (hput undef) w).mpr ⟨hk a hy undef,h⟩
theorem zhg{i:Nat}{oi:Oper}{v:Value}(hi:ops[i]? = some oi)(hsel:∀ (j:Nat) (o:Oper) cs b,ops[j]? = some o->o.op≠.select cs b)(hQ:∀ c a w,Q (.panic c) (a.put oi.dst v) w->Q (.panic c) a w) :
  ∀ (n:Nat) (listed:Array Bool) (a:Act) (w:World),(∀ j oj,ops[j]? = some oj->j≠i->listed.getD j true=false->(∀ e∈oj.after,Region.binds md e=true->e.on≠i)->oi.apart ops oj=true)->
   i∈Region.ready md ops listed->zG P ops C oi v a->anyIn P md ops Q C n (listed.setIfInBounds i true) (a.put oi.dst v) w->anyIn P md ops Q C (n+1) listed a w
 | n,listed,a,w,hfree,hr,hy,H=>by
  have hC:C w:=zr7 H
  refine⟨hC,fun h=>(by rw[h] at hr;cases hr),fun j hj=>?_⟩
  by_cases hji:j=i
  ·subst hji
   exact hy.op hi hC H
  ·obtain⟨hjun,oj,hoj,hall⟩:=mem_ready.1 hj
   have hnot:∀ e∈oj.after,Region.binds md e=true->e.on≠i:=fun e he hb heq=>by
    have k1:=hall e he hb
    have k0:=(mem_ready.1 hr).1
    rw[heq] at k1
    rw[Array.getD_eq_getD_getElem?] at k0 k1
    cases hx:listed[i]? with
    | none=>rw[hx] at k1;cases k1
    | some x=>rw[hx] at k0 k1;simp only[Option.getD_some] at k0 k1;rw[k0] at k1;cases k1
   match n,H with
   | 0,H=>
    have:=ready_mono hj hji
    rw[H.2.1] at this
    cases this
   | n+1,H=>
    have h2:=zid hoj (hfree j oj hoj hji hjun hnot) (fun cs b=>hsel i oi cs b hi) (fun cs b=>hsel j oj cs b hoj) hQ hy (H.2.2 j (ready_mono hj hji))
    refine wpOp_mono (fun a' w' h3=>zhg hi hsel hQ n (listed.setIfInBounds j true) a' w' ?_ (ready_mono hr (Ne.symm hji)) h3.1 ?_) h2
    ·intro k ok hk hki hun hno
     refine hfree k ok hk hki ?_ hno
     by_cases hjk:j=k
     ·subst hjk
      exact hjun
     ·rwa [getD_set_ne true hjk] at hun
    ·rw[Array.setIfInBounds_comm _ _ hji]
     exact h3.2
theorem zor{i:Nat}{oi:Oper}{v:Value}{n:Nat}{listed:Array Bool}{a:Act}{w:World}(hi:ops[i]? = some oi)(hs:Region.noSelect ops=true)(hf:Region.free md ops listed i=true)(hr:(Region.ready md ops listed).contains i=true)
  (hQ:∀ c a w,Q (.panic c) (a.put oi.dst v) w->Q (.panic c) a w) (hy:zG P ops C oi v a) (h:anyIn P md ops Q C n (listed.setIfInBounds i true) (a.put oi.dst v) w):anyIn P md ops Q C (n+1) listed a w:=
 zhg hi (Region.noSelect_spec hs) hQ n listed a w (Region.free_spec hi hf) (by simpa using hr) hy h
theorem zh4{i:Nat}{oi:Oper}{n:Nat}{listed:Array Bool}{a:Act}{w:World}(hi:ops[i]? = some oi)(hs:Region.noSelect ops=true)(hf:Region.free md ops listed i=true)(hr:(Region.ready md ops listed).contains i=true)
  (hQ:∀ v c a w,Q (.panic c) (a.put oi.dst v) w->Q (.panic c) a w) (h:∃ v,zG P ops C oi v a/\anyIn P md ops Q C n (listed.setIfInBounds i true) (a.put oi.dst v) w):anyIn P md ops Q C (n+1) listed a w:=by
 obtain⟨v,h1,h2⟩:=h
 exact zor hi hs hf hr (hQ v) h1 h2
theorem zdk{rs:List Nat}{n:Nat}{listed:Array Bool}{a:Act}{w:World}(hC:C w)(hr:Region.ready md ops listed=rs)(hne:rs≠[])(h:∀ i∈rs,wpOp P ops Q i (anyIn P md ops Q C n (listed.setIfInBounds i true)) a w):anyIn P md ops Q C (n+1) listed a w:=
 ⟨hC,fun h0=>absurd (hr ▸ h0) hne,hr ▸ h⟩
theorem zb0{i:Nat}{o:Oper}{n:Nat}{listed:Array Bool}{a:Act}{w:World}(hi:ops[i]? = some o)(h:∀ K:Act->World->Prop,(∀ a w,anyIn P md ops Q C n (listed.setIfInBounds i true) a w->K a w)->if Region.wanted o (yielded ops a.tmps) then o.wp P a w K Q else K (a.put o.dst undef) w):wpOp P ops Q i (anyIn P md ops Q C n (listed.setIfInBounds i true)) a w:=by
 have:=h _ (fun _ _ h=>h)
 unfold wpOp
 simp only[hi]
 split
 ·rename_i hw
  rw[if_pos hw] at this
  exact .inl this
 ·rename_i hw
  rwa [if_neg hw] at this
theorem zby{i:Nat}{o:Oper}{n:Nat}{listed:Array Bool}{a:Act}{w:World}(hC:C w)(hi:ops[i]? = some o)(hr:Region.ready md ops listed=[i])(h:∀ K:Act->World->Prop,(∀ a w,anyIn P md ops Q C n (listed.setIfInBounds i true) a w->K a w)->if Region.wanted o (yielded ops a.tmps) then o.wp P a w K Q else K (a.put o.dst undef) w):anyIn P md ops Q C (n+1) listed a w:=
 zdk hC hr (by simp) (fun j hj=>by
  obtain rfl:j=i:=by simpa using hj
  exact zb0 hi h)
theorem zkd{i j:Nat}{o o':Oper}{n:Nat}{listed:Array Bool}{a:Act}{w:World}(hC:C w)(hi:ops[i]? = some o)(hj:ops[j]? = some o')(hr:Region.ready md ops listed=[i,j])(h:∀ K:Act->World->Prop,(∀ a w,anyIn P md ops Q C n (listed.setIfInBounds i true) a w->K a w)->if Region.wanted o (yielded ops a.tmps) then o.wp P a w K Q else K (a.put o.dst undef) w)
  (h':∀ K:Act->World->Prop,(∀ a w,anyIn P md ops Q C n (listed.setIfInBounds j true) a w->K a w)->if Region.wanted o' (yielded ops a.tmps) then o'.wp P a w K Q else K (a.put o'.dst undef) w):anyIn P md ops Q C (n+1) listed a w:=
 zdk hC hr (by simp) (fun k hk=>by
  have:k=i\/k=j:=by simpa using hk
  rcases this with rfl | rfl
  ·exact zb0 hi h
  ·exact zb0 hj h')
theorem zag{listed:Array Bool}{a:Act}{w:World}{n:Nat}(hC:C w)(hr:Region.ready md ops listed=[])(h:Q .normal a w):anyIn P md ops Q C n listed a w:=by
 cases n with
 | zero=>exact⟨hC,hr,h⟩
 | succ n=>exact⟨hC,fun _=>h,by rw[hr];simp⟩
theorem zao{id:Nat}{a:Act}{w:World}{l:List Oper}(hm:P.follows .mixedOrders=true)(h:anyIn P .any l.toArray Q C l.length (Array.replicate l.length false) a w.drew):(Code.region id l.toArray true).wp P Q a w:=by
 refine wp_region_any hm ?_
 have:=zke _ _ _ _ h
 simpa using this
end
section
variable{P:Program}{ops:Array Oper}{Q:Exit->Act->World->Prop}{md:Region.Mode}{C:World->Prop}{m:Nat}
def anyL(P:Program)(md:Region.Mode)(ops:Array Oper)(Q:Exit->Act->World->Prop)(C:World->Prop)(m:Nat):Nat->Array Bool->Act->World->Prop
 | 0,listed,a,w=>(listed.getD m true=false->C w)/\Region.ready md ops listed=[]/\Q .normal a w
 | n+1,listed,a,w=>(listed.getD m true=false->C w)/\(Region.ready md ops listed=[]->Q .normal a w)/\∀ i∈Region.ready md ops listed,wpOp P ops Q i (anyL P md ops Q C m n (listed.setIfInBounds i true)) a w
theorem zi0:∀ (n:Nat) (listed:Array Bool) (a:Act) (w:World),anyL P md ops Q C m n listed a w->wpAny P md ops Q n listed a w
 | 0,_,_,_,h=>h.2
 | n+1,_,_,_,h=>⟨h.2.1,fun i hi=>wpOp_mono (fun a' w' h'=>zi0 n _ a' w' h') (h.2.2 i hi)⟩
theorem ziz{n:Nat}{listed:Array Bool}{a:Act}{w:World}(h:anyL P md ops Q C m n listed a w)(hm:listed.getD m true=false):C w:=by
 cases n with
 | zero=>exact h.1 hm
 | succ n=>exact h.1 hm
def waits(md:Region.Mode)(ops:Array Oper)(m i:Nat):Bool:=match ops[m]? with
 | some o=>o.after.any fun e=>Region.binds md e && (e.on == i)
 | none=>false
theorem zfm{i:Nat}{om:Oper}(h:waits md ops m i=true)(hm:ops[m]? = some om):∃ e∈om.after,Region.binds md e=true/\e.on=i:=by
 unfold waits at h
 rw[hm] at h
 simp only[Array.any_eq_true,Bool.and_eq_true,beq_iff_eq] at h
 obtain⟨k,hk,h1,h2⟩:=h
 exact⟨om.after[k],Array.getElem_mem hk,h1,h2⟩
theorem zh3{i:Nat}{oi:Oper}{v:Value}(hi:ops[i]? = some oi)(hsel:∀ (j:Nat) (o:Oper) cs b,ops[j]? = some o->o.op≠.select cs b)(hQ:∀ c a w,Q (.panic c) (a.put oi.dst v) w->Q (.panic c) a w) :
  ∀ (n:Nat) (listed:Array Bool) (a:Act) (w:World),(∀ j oj,ops[j]? = some oj->j≠i->listed.getD j true=false->(∀ e∈oj.after,Region.binds md e=true->e.on≠i)->oi.apart ops oj=true)->
   waits md ops m i=true->listed.getD m true=false->m≠i->i∈Region.ready md ops listed->zG P ops C oi v a->anyL P md ops Q C m n (listed.setIfInBounds i true) (a.put oi.dst v) w->anyL P md ops Q C m (n+1) listed a w
 | n,listed,a,w,hfree,hwt,hml,hmi,hr,hy,H=>by
  have hC:C w:=ziz H (by rw[getD_set_ne true (Ne.symm hmi)];exact hml)
  refine⟨fun _=>hC,fun h=>(by rw[h] at hr;cases hr),fun j hj=>?_⟩
  by_cases hji:j=i
  ·subst hji
   exact hy.op hi hC H
  ·obtain⟨hjun,oj,hoj,hall⟩:=mem_ready.1 hj
   have hnot:∀ e∈oj.after,Region.binds md e=true->e.on≠i:=fun e he hb heq=>by
    have k1:=hall e he hb
    have k0:=(mem_ready.1 hr).1
    rw[heq] at k1
    rw[Array.getD_eq_getD_getElem?] at k0 k1
    cases hx:listed[i]? with
    | none=>rw[hx] at k1;cases k1
    | some x=>rw[hx] at k0 k1;simp only[Option.getD_some] at k0 k1;rw[k0] at k1;cases k1
   have hjm:j≠m:=fun e=>by
    subst e
    obtain⟨e,he,hb,ho⟩:=zfm hwt hoj
    exact hnot e he hb ho
   match n,H with
   | 0,H=>
    have:=ready_mono hj hji
    rw[H.2.1] at this
    cases this
   | n+1,H=>
    have h2:=zid hoj (hfree j oj hoj hji hjun hnot) (fun cs b=>hsel i oi cs b hi) (fun cs b=>hsel j oj cs b hoj) hQ hy (H.2.2 j (ready_mono hj hji))
    refine wpOp_mono (fun a' w' h3=>zh3 hi hsel hQ n (listed.setIfInBounds j true) a' w' ?_ hwt (by rw[getD_set_ne true hjm];exact hml) hmi (ready_mono hr (Ne.symm hji)) h3.1 ?_) h2
    ·intro k ok hk hki hun hno
     refine hfree k ok hk hki ?_ hno
     by_cases hjk:j=k
     ·subst hjk
      exact hjun
     ·rwa [getD_set_ne true hjk] at hun
    ·rw[Array.setIfInBounds_comm _ _ hji]
     exact h3.2
theorem zr6{i:Nat}{oi:Oper}{v:Value}{n:Nat}{listed:Array Bool}{a:Act}{w:World}(hi:ops[i]? = some oi)(hs:Region.noSelect ops=true)(hf:Region.free md ops listed i=true)(hr:(Region.ready md ops listed).contains i=true)(hwt:(waits md ops m i && !(listed.getD m true) && (m != i))=true)
  (hQ:∀ c a w,Q (.panic c) (a.put oi.dst v) w->Q (.panic c) a w) (hy:zG P ops C oi v a) (h:anyL P md ops Q C m n (listed.setIfInBounds i true) (a.put oi.dst v) w):anyL P md ops Q C m (n+1) listed a w:=
 zh3 hi (Region.noSelect_spec hs) hQ n listed a w (Region.free_spec hi hf) (by simp at hwt;exact hwt.1.1) (by simpa using(show _/\_ from by simp at hwt;exact hwt.1).2) (by simp at hwt;exact hwt.2) (by simpa using hr) hy h
theorem zkc{i:Nat}{oi:Oper}{n:Nat}{listed:Array Bool}{a:Act}{w:World}(hi:ops[i]? = some oi)(hs:Region.noSelect ops=true)(hf:Region.free md ops listed i=true)(hr:(Region.ready md ops listed).contains i=true)(hwt:(waits md ops m i && !(listed.getD m true) && (m != i))=true)
  (hQ:∀ v c a w,Q (.panic c) (a.put oi.dst v) w->Q (.panic c) a w) (h:∃ v,zG P ops C oi v a/\anyL P md ops Q C m n (listed.setIfInBounds i true) (a.put oi.dst v) w):anyL P md ops Q C m (n+1) listed a w:=by
 obtain⟨v,h1,h2⟩:=h
 exact zr6 hi hs hf hr hwt (hQ v) h1 h2
theorem zi1{rs:List Nat}{n:Nat}{listed:Array Bool}{a:Act}{w:World}(hC:listed.getD m true=false->C w)(hr:Region.ready md ops listed=rs)(hne:rs≠[])(h:∀ i∈rs,wpOp P ops Q i (anyL P md ops Q C m n (listed.setIfInBounds i true)) a w):anyL P md ops Q C m (n+1) listed a w:=
 ⟨hC,fun h0=>absurd (hr ▸ h0) hne,hr ▸ h⟩
theorem ziy{i:Nat}{o:Oper}{n:Nat}{listed:Array Bool}{a:Act}{w:World}(hi:ops[i]? = some o)(h:∀ K:Act->World->Prop,(∀ a w,anyL P md ops Q C m n (listed.setIfInBounds i true) a w->K a w)->if Region.wanted o (yielded ops a.tmps) then o.wp P a w K Q else K (a.put o.dst undef) w):wpOp P ops Q i (anyL P md ops Q C m n (listed.setIfInBounds i true)) a w:=by
 have:=h _ (fun _ _ h=>h)
 unfold wpOp
 simp only[hi]
 split
 ·rename_i hw
  rw[if_pos hw] at this
  exact .inl this
 ·rename_i hw
  rwa [if_neg hw] at this
theorem zmz{i:Nat}{o:Oper}{n:Nat}{listed:Array Bool}{a:Act}{w:World}(hC:C w)(hi:ops[i]? = some o)(hr:Region.ready md ops listed=[i])(h:∀ K:Act->World->Prop,(∀ a w,anyL P md ops Q C m n (listed.setIfInBounds i true) a w->K a w)->if Region.wanted o (yielded ops a.tmps) then o.wp P a w K Q else K (a.put o.dst undef) w):anyL P md ops Q C m (n+1) listed a w:=
 zi1 (fun _=>hC) hr (by simp) (fun j hj=>by
  obtain rfl:j=i:=by simpa using hj
  exact ziy hi h)
theorem zas{listed:Array Bool}{a:Act}{w:World}{n:Nat}(hC:listed.getD m true=true)(hr:Region.ready md ops listed=[])(h:Q .normal a w):anyL P md ops Q C m n listed a w:=by
 cases n with
 | zero=>exact⟨fun e=>(by rw[hC] at e;cases e),hr,h⟩
 | succ n=>exact⟨fun e=>(by rw[hC] at e;cases e),fun _=>h,by rw[hr];simp⟩
theorem zan{id:Nat}{a:Act}{w:World}{l:List Oper}(m:Nat)(hm:P.follows .mixedOrders=true)(h:anyL P .any l.toArray Q C m l.length (Array.replicate l.length false) a w.drew):(Code.region id l.toArray true).wp P Q a w:=by
 refine wp_region_any hm ?_
 have:=zi0 _ _ _ _ h
 simpa using this
inductive Before(md:Region.Mode)(ops:Array Oper):Nat->Nat->Prop
 | one (m i:Nat) (h:waits md ops m i=true):Before md ops m i
 | way (m k i:Nat) (h:waits md ops m k=true) (h2:Before md ops k i):Before md ops m i
def closedUp(md:Region.Mode)(ops:Array Oper)(listed:Array Bool):Prop:=∀ k o,ops[k]? = some o->listed.getD k false=true->∀ e∈o.after,Region.binds md e=true->listed.getD e.on false=true
theorem zhl(l:Array Bool)(j k:Nat):(l.setIfInBounds j true).getD k false=true↔l.getD k false=true\/(k=j/\j < l.size):=by
 rw[Array.getD_eq_getD_getElem?,Array.getD_eq_getD_getElem?,Array.getElem?_setIfInBounds]
 by_cases h:j=k
 ·subst h
  by_cases h2:j < l.size
  ·simp[h2]
  ·simp[h2]
 ·rw[if_neg h]
  simp[Ne.symm h]
theorem closedUp.set{listed:Array Bool}(h:closedUp md ops listed){j:Nat}(hj:j∈Region.ready md ops listed):closedUp md ops (listed.setIfInBounds j true):=by
 intro k o hk hl e he hb
 obtain⟨_,oj,hoj,hall⟩:=mem_ready.1 hj
 rw[zhl] at hl ⊢
 rcases hl with hl | ⟨rfl,_⟩
 ·exact Or.inl (h k o hk hl e he hb)
 ·rw[hoj] at hk
  cases hk
  exact Or.inl (hall e he hb)
theorem zs8{listed:Array Bool}{i:Nat}(h0:listed.getD i true=false)(h1:listed.getD i false=true):False:=by
 rw[Array.getD_eq_getD_getElem?] at h0 h1
 cases hx:listed[i]? with
 | none=>rw[hx] at h1;cases h1
 | some x=>rw[hx] at h0 h1;simp only[Option.getD_some] at h0 h1;rw[h0] at h1;cases h1
theorem Before.listed{i:Nat}(h:Before md ops m i){listed:Array Bool}(hc:closedUp md ops listed){om:Oper}(hm:ops[m]? = some om)(hall:∀ e∈om.after,Region.binds md e=true->listed.getD e.on false=true):listed.getD i false=true:=by
 induction h generalizing om with
 | one m i h=>
  obtain⟨e,he,hb,ho⟩:=zfm h hm
  rw[<-ho]
  exact hall e he hb
 | way m k i h h2 ih=>
  obtain⟨e,he,hb,ho⟩:=zfm h hm
  have hk:=hall e he hb
  rw[ho] at hk
  cases hok:ops[k]? with
  | none=>
   cases h2 with
   | one _ _ h=>unfold waits at h;rw[hok] at h;cases h
   | way _ _ _ h _=>unfold waits at h;rw[hok] at h;cases h
  | some ok=>exact ih hok (fun e he hb=>hc k ok hok hk e he hb)
theorem Before.not_ready{i:Nat}(h:Before md ops m i){listed:Array Bool}(hc:closedUp md ops listed)(hi:listed.getD i true=false)(hm:m∈Region.ready md ops listed):False:=by
 obtain⟨_,om,hom,hall⟩:=mem_ready.1 hm
 exact zs8 hi (h.listed hc hom hall)
theorem zhe{i:Nat}{oi:Oper}{v:Value}(hi:ops[i]? = some oi)(hsel:∀ (j:Nat) (o:Oper) cs b,ops[j]? = some o->o.op≠.select cs b)(hQ:∀ c a w,Q (.panic c) (a.put oi.dst v) w->Q (.panic c) a w) :
  ∀ (n:Nat) (listed:Array Bool) (a:Act) (w:World),(∀ j oj,ops[j]? = some oj->j≠i->listed.getD j true=false->(∀ e∈oj.after,Region.binds md e=true->e.on≠i)->oi.apart ops oj=true)->
   Before md ops m i->closedUp md ops listed->listed.getD m true=false->m≠i->i∈Region.ready md ops listed->zG P ops C oi v a->anyL P md ops Q C m n (listed.setIfInBounds i true) (a.put oi.dst v) w->anyL P md ops Q C m (n+1) listed a w
 | n,listed,a,w,hfree,hwt,hcu,hml,hmi,hr,hy,H=>by
  have hC:C w:=ziz H (by rw[getD_set_ne true (Ne.symm hmi)];exact hml)
  refine⟨fun _=>hC,fun h=>(by rw[h] at hr;cases hr),fun j hj=>?_⟩
  by_cases hji:j=i
  ·subst hji
   exact hy.op hi hC H
  ·obtain⟨hjun,oj,hoj,hall⟩:=mem_ready.1 hj
   have hnot:∀ e∈oj.after,Region.binds md e=true->e.on≠i:=fun e he hb heq=>by
    have k1:=hall e he hb
    have k0:=(mem_ready.1 hr).1
    rw[heq] at k1
    rw[Array.getD_eq_getD_getElem?] at k0 k1
    cases hx:listed[i]? with
    | none=>rw[hx] at k1;cases k1
    | some x=>rw[hx] at k0 k1;simp only[Option.getD_some] at k0 k1;rw[k0] at k1;cases k1
   have hjm:j≠m:=fun e=>by
    subst e
    exact hwt.not_ready hcu (mem_ready.1 hr).1 hj
   match n,H with
   | 0,H=>
    have:=ready_mono hj hji
    rw[H.2.1] at this
    cases this
   | n+1,H=>
    have h2:=zid hoj (hfree j oj hoj hji hjun hnot) (fun cs b=>hsel i oi cs b hi) (fun cs b=>hsel j oj cs b hoj) hQ hy (H.2.2 j (ready_mono hj hji))
    refine wpOp_mono (fun a' w' h3=>zhe hi hsel hQ n (listed.setIfInBounds j true) a' w' ?_ hwt (hcu.set hj) (by rw[getD_set_ne true hjm];exact hml) hmi (ready_mono hr (Ne.symm hji)) h3.1 ?_) h2
    ·intro k ok hk hki hun hno
     refine hfree k ok hk hki ?_ hno
     by_cases hjk:j=k
     ·subst hjk
      exact hjun
     ·rwa [getD_set_ne true hjk] at hun
    ·rw[Array.setIfInBounds_comm _ _ hji]
     exact h3.2
def zhm(md:Region.Mode)(ops:Array Oper):Nat->Nat->Nat->Bool
 | 0,m,i=>waits md ops m i
 | f+1,m,i=>waits md ops m i || (List.range ops.size).any fun k=>waits md ops m k && zhm md ops f k i
theorem zgf:∀ (f m i:Nat),zhm md ops f m i=true->Before md ops m i
 | 0,m,i,h=>Before.one m i h
 | f+1,m,i,h=>by
  unfold zhm at h
  rw[Bool.or_eq_true] at h
  rcases h with h | h
  ·exact Before.one m i h
  ·obtain⟨k,_,hk⟩:=List.any_eq_true.1 h
   rw[Bool.and_eq_true] at hk
   exact Before.way m k i hk.1 (zgf f k i hk.2)
def zg7(md:Region.Mode)(ops:Array Oper)(listed:Array Bool):Bool:=(List.range ops.size).all fun k=>!(listed.getD k false) || match ops[k]? with
 | some o=>o.after.all fun e=>!(Region.binds md e) || listed.getD e.on false
 | none=>true
theorem zj1{listed:Array Bool}(h:zg7 md ops listed=true):closedUp md ops listed:=by
 intro k o hk hl e he hb
 unfold zg7 at h
 have hlt:=(sz hk)
 have:=List.all_eq_true.1 h k (List.mem_range.2 hlt)
 rw[hl,hk] at this
 simp only[Bool.not_true,Bool.false_or] at this
 have h2:=Array.all_eq_true_iff_forall_mem.1 this e he
 rw[hb] at h2
 simpa using h2
theorem zax(f:Nat){i:Nat}{oi:Oper}{n:Nat}{listed:Array Bool}{a:Act}{w:World}(hi:ops[i]? = some oi)(hs:Region.noSelect ops=true)(hf:Region.free md ops listed i=true)(hr:(Region.ready md ops listed).contains i=true)(hwt:(zhm md ops f m i && zg7 md ops listed && !(listed.getD m true) && (m != i))=true)
  (hQ:∀ v c a w,Q (.panic c) (a.put oi.dst v) w->Q (.panic c) a w) (h:∃ v,zG P ops C oi v a/\anyL P md ops Q C m n (listed.setIfInBounds i true) (a.put oi.dst v) w):anyL P md ops Q C m (n+1) listed a w:=by
 obtain⟨v,h1,h2⟩:=h
 rw[Bool.and_eq_true,Bool.and_eq_true,Bool.and_eq_true] at hwt
 obtain⟨⟨⟨k1,k2⟩,k3⟩,k4⟩:=hwt
 exact zhe hi (Region.noSelect_spec hs) (hQ v) n listed a w (Region.free_spec hi hf) (zgf f m i k1) (zj1 k2) (by simpa using k3) (by simpa using k4) (by simpa using hr) h1 h2
theorem zhf{i:Nat}{oi:Oper}{v:Value}(hi:ops[i]? = some oi)(hsel:∀ (j:Nat) (o:Oper) cs b,ops[j]? = some o->o.op≠.select cs b)(hQ:∀ c a w,Q (.panic c) (a.put oi.dst v) w->Q (.panic c) a w) :
  ∀ (n:Nat) (listed:Array Bool) (a:Act) (w:World),(∀ j oj,ops[j]? = some oj->j≠i->listed.getD j true=false->(∀ e∈oj.after,Region.binds md e=true->e.on≠i)->oi.apart ops oj=true)->
   m≠i->i∈Region.ready md ops listed->zG P ops (fun _=>True) oi v a->anyL P md ops Q C m n (listed.setIfInBounds i true) (a.put oi.dst v) w->anyL P md ops Q C m (n+1) listed a w
 | n,listed,a,w,hfree,hmi,hr,hy,H=>by
  refine⟨fun hml=>ziz H (by rw[getD_set_ne true (Ne.symm hmi)];exact hml),fun h=>(by rw[h] at hr;cases hr),fun j hj=>?_⟩
  by_cases hji:j=i
  ·subst hji
   exact hy.op hi trivial H
  ·obtain⟨hjun,oj,hoj,hall⟩:=mem_ready.1 hj
   have hnot:∀ e∈oj.after,Region.binds md e=true->e.on≠i:=fun e he hb heq=>by
    have k1:=hall e he hb
    have k0:=(mem_ready.1 hr).1
    rw[heq] at k1
    rw[Array.getD_eq_getD_getElem?] at k0 k1
    cases hx:listed[i]? with
    | none=>rw[hx] at k1;cases k1
    | some x=>rw[hx] at k0 k1;simp only[Option.getD_some] at k0 k1;rw[k0] at k1;cases k1
   match n,H with
   | 0,H=>
    have:=ready_mono hj hji
    rw[H.2.1] at this
    cases this
   | n+1,H=>
    have h2:=zid hoj (hfree j oj hoj hji hjun hnot) (fun cs b=>hsel i oi cs b hi) (fun cs b=>hsel j oj cs b hoj) hQ hy (H.2.2 j (ready_mono hj hji))
    refine wpOp_mono (fun a' w' h3=>zhf hi hsel hQ n (listed.setIfInBounds j true) a' w' ?_ hmi (ready_mono hr (Ne.symm hji)) h3.1 ?_) h2
    ·intro k ok hk hki hun hno
     refine hfree k ok hk hki ?_ hno
     by_cases hjk:j=k
     ·subst hjk
      exact hjun
     ·rwa [getD_set_ne true hjk] at hun
    ·rw[Array.setIfInBounds_comm _ _ hji]
     exact h3.2
theorem zfk{i:Nat}{oi:Oper}{n:Nat}{listed:Array Bool}{a:Act}{w:World}(hi:ops[i]? = some oi)(hs:Region.noSelect ops=true)(hf:Region.free md ops listed i=true)(hr:(Region.ready md ops listed).contains i=true)(hmi:(m != i)=true)
  (hQ:∀ v c a w,Q (.panic c) (a.put oi.dst v) w->Q (.panic c) a w) (h:∃ v,zG P ops (fun _=>True) oi v a/\anyL P md ops Q C m n (listed.setIfInBounds i true) (a.put oi.dst v) w):anyL P md ops Q C m (n+1) listed a w:=by
 obtain⟨v,h1,h2⟩:=h
 exact zhf hi (Region.noSelect_spec hs) (hQ v) n listed a w (Region.free_spec hi hf) (by simpa using hmi) (by simpa using hr) h1 h2
end
end Go.Proofs.YtkcmachfagcnaaaGreatDoor
