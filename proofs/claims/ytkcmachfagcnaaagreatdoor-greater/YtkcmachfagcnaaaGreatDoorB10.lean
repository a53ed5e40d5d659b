/- Part of Greater. -/
import Derived.LaidEql
import Derived.Stop.Asserts
import Derived.RowKitTokens
import Derived.Test.YtkcmachfagcnaaaGreatDoorB08
import Derived.Test.YtkcmachfagcnaaaGreatDoorB09
set_option maxHeartbeats 8000000
set_option maxRecDepth 100000
namespace Go.Proofs.YtkcmachfagcnaaaGreatDoor.C12
open Go.RowKit Go.Deep Go.Extern.Stop Go.Stop Go.Extern
theorem zx2(t:Value)(w:World):Calls Tryz.prog 24 #[.nilIface,t] w fun e w'=>e=.returned (.bool false)/\w'=w:=by
 go_enter Tryz.func24,Tryz.ntmps24
 go_wp2
 go_ret
 exact⟨rfl,rfl⟩
theorem zoy(t:Addr)(w:World):(ReflectliteValue.unpack (.iface 86 (.pointer (some t)))).run Tryz.prog w
  = .ok (.agg #[.pointer (some ⟨12,86,none⟩),.pointer (some ⟨w.heap.size,0,none⟩),.int .u64 150]) (w.alloc (.cells #[.pointer (some t)] 86)):=by kernel_rfl
theorem zwz(a:Addr)(w:World):(ReflectliteValue.methodAny (ReflectliteValue.valueError "reflectlite.Value.Type" 0) (fun t _ _ _=>ReflectliteType.toType t) #[.agg #[.pointer (some ⟨12,86,none⟩),.pointer (some a),.int .u64 150]]).run Tryz.prog w
  = .ok (.iface 163 (.agg #[.pointer (some ⟨12,86,none⟩)])) w:=by kernel_rfl
theorem znx(h:Value)(w:World):(Go.method 385 163 (.agg #[h]) "Kind").run Tryz.prog w=.ok (178,h) w:=by kernel_rfl
theorem zxe(w:World):((ReflectliteType.abiMethod fun t=>(fun a:Nat=>.int .u8 (a:Int)) <$> Rtype.kind t) #[.pointer (some ⟨12,86,none⟩)]).run Tryz.prog w=.ok (.int .u8 22) w:=by kernel_rfl
theorem zxf(w:World):((ReflectliteType.abiMethod fun t=>(fun a:Nat=>.int .u8 (a:Int)) <$> Rtype.kind t) #[.pointer (some ⟨12,84,none⟩)]).run Tryz.prog w=.ok (.int .u8 25) w:=by kernel_rfl
theorem rlm(z:Sem Value)(f:TypeId->Addr->Nat->Nat->Sem Value)(v:Value) :
  ReflectliteValue.method z f #[v]=(do match<-ReflectliteValue.parts v with | none=>z | some (t,a,fl)=>f t a fl (fl % 32)):=rfl
theorem zpv(a:Addr)(w:World):(ReflectliteValue.parts (.agg #[.pointer (some ⟨12,86,none⟩),.pointer (some a),.int .u64 150])).run Tryz.prog w=.ok (some (86,a,150)) w:=by kernel_rfl
theorem zv7(a p:Addr)(W:World)(ha:W.cell? a=some (.pointer (some p))) :
  (ReflectliteValue.method (ReflectliteValue.valueError "reflectlite.Value.IsNil" 0) ReflectliteValue.isNil #[.agg #[.pointer (some ⟨12,86,none⟩),.pointer (some a),.int .u64 150]]).run Tryz.prog W=.ok (.bool false) W:=by
 rw[rlm]
 simp only[Sem.run_bind,zpv,Result.andThen]
 simp[ReflectliteValue.isNil,loadVar,isAgg,underlying,Tryz.underlying86,ha,Result.andThen]
theorem zny(h:Value)(w:World):(Go.method 385 163 (.agg #[h]) "Elem").run Tryz.prog w=.ok (188,.agg #[h]) w:=by kernel_rfl
theorem zf9(h:Value)(w:World):(Go.method 385 163 (.agg #[h]) "Implements").run Tryz.prog w=.ok (189,.agg #[h]) w:=by kernel_rfl
theorem zfc(h:Value)(w:World):(Go.method 385 163 (.agg #[h]) "AssignableTo").run Tryz.prog w=.ok (186,.agg #[h]) w:=by kernel_rfl
theorem zxq(w:World):(ReflectliteType.method ReflectliteType.elem #[.agg #[.pointer (some ⟨12,86,none⟩)]]).run Tryz.prog w=.ok (.iface 163 (.agg #[.pointer (some ⟨12,84,none⟩)])) w:=by kernel_rfl
theorem zjv(w:World):(ReflectliteType.relation "Implements" ReflectliteType.implements_ #[.agg #[.pointer (some ⟨12,84,none⟩)],.iface 163 (.agg #[.pointer (some ⟨12,80,none⟩)])]).run Tryz.prog w=.ok (.bool true) w:=by kernel_rfl
theorem zsd(v:Value)(w:World):(ReflectliteType.typeOf #[.iface 84 v]).run Tryz.prog w=.ok (.iface 163 (.agg #[.pointer (some ⟨12,84,none⟩)])) w:=by kernel_rfl
theorem zka(w:World):(ReflectliteType.relation "AssignableTo" ReflectliteType.assignableTo #[.agg #[.pointer (some ⟨12,84,none⟩)],.iface 163 (.agg #[.pointer (some ⟨12,84,none⟩)])]).run Tryz.prog w=.ok (.bool true) w:=by kernel_rfl
theorem zoz(k a:Int)(w:World):(ReflectliteValue.unpack (.iface 84 (.agg #[.int .i64 k,.int .i64 a]))).run Tryz.prog w
  = .ok (.agg #[.pointer (some ⟨12,84,none⟩),.pointer (some ⟨w.heap.size,0,none⟩),.int .u64 153]) (w.alloc (.cells #[.int .i64 k,.int .i64 a] 84)):=by kernel_rfl
theorem zt6(w:World):(Rtype.elem? 86).run Tryz.prog w=.ok (some 84) w:=by kernel_rfl
theorem mk63(p:Addr)(w:World):(ReflectliteValue.mk 84 p ReflectliteValue.flagAddr).run Tryz.prog w=.ok (.agg #[.pointer (some ⟨12,84,none⟩),.pointer (some p),.int .u64 409]) w:=by kernel_rfl
theorem zwh(a p:Addr)(W:World)(ha:W.cell? a=some (.pointer (some p))) :
  (ReflectliteValue.method (ReflectliteValue.valueError "reflectlite.Value.Elem" 0) ReflectliteValue.elem #[.agg #[.pointer (some ⟨12,86,none⟩),.pointer (some a),.int .u64 150]]).run Tryz.prog W
   = .ok (.agg #[.pointer (some ⟨12,84,none⟩),.pointer (some p),.int .u64 409]) W:=by
 rw[rlm]
 simp only[Sem.run_bind,zpv,Result.andThen]
 simp[ReflectliteValue.elem,loadVar,isAgg,underlying,Tryz.underlying86,ha,Result.andThen,zt6,mk63]
theorem rls(v x:Value):ReflectliteValue.set #[v,x]=(do
  let (some (dst,a,fl),some (src,b,_)):=(<-ReflectliteValue.parts v,<-ReflectliteValue.parts x)
   | unsupported (.noEntry "extern/(internal/reflectlite.Value).Set.zeroValue")
  if fl / ReflectliteValue.flagAddr % 2 == 0 then unsupported (.noEntry "extern/(internal/reflectlite.Value).Set.unaddressable")
  let val<-loadVar src b
  if<-Rtype.directlyAssignable dst src then storeVar dst a val
  else if<-Rtype.implements dst src then
   if(<-Rtype.kind src) == 20 then
    match val with
    | .nilIface=>unsupported (.noEntry "extern/reflectlite: a nil value of one interface type handed on as a value of another")
    | _=>storeVar dst a val
   else storeVar dst a (.iface src val)
  else panicString ("reflectlite.Set: value of type " ++(<-Rtype.spelt src)++ " is not assignable to type " ++(<-Rtype.spelt dst))
  pure (.tuple #[])):=rfl
theorem zst(a:Addr)(w:World):(ReflectliteValue.parts (.agg #[.pointer (some ⟨12,84,none⟩),.pointer (some a),.int .u64 409])).run Tryz.prog w=.ok (some (84,a,409)) w:=by kernel_rfl
theorem zvp(a:Addr)(w:World):(ReflectliteValue.parts (.agg #[.pointer (some ⟨12,84,none⟩),.pointer (some a),.int .u64 153])).run Tryz.prog w=.ok (some (84,a,153)) w:=by kernel_rfl
theorem zuh(w:World):(Rtype.directlyAssignable 84 84).run Tryz.prog w=.ok true w:=by kernel_rfl
theorem zxc(b:Nat)(k a:Int)(W:World)(h0:W.cell? ⟨b,0,none⟩=some (.int .i64 k))(h1:W.cell? ⟨b,1,none⟩=some (.int .i64 a)):(loadVar 84 ⟨b,0,none⟩).run Tryz.prog W=.ok (.agg #[.int .i64 k,.int .i64 a]) W:=by
 simp[loadVar,isAgg,underlying,Tryz.underlying84,Result.andThen,loadCells,loadCellsFrom,Addr.add,h0,h1]
theorem zvf(tb:Nat)(k a k0 a0:Int)(W:World)(h:W.heap[tb]? = some (.cells #[.int .i64 k0,.int .i64 a0] 84)):(storeVar 84 ⟨tb,0,none⟩ (.agg #[.int .i64 k,.int .i64 a])).run Tryz.prog W=.ok () ((W.setCell ⟨tb,0,none⟩ (.int .i64 k)).setCell ⟨tb,1,none⟩ (.int .i64 a)):=by
 have hlt:=(sz h)
 have c0:W.cell? ⟨tb,0,none⟩=some (.int .i64 k0):=by simp[World.cell?,h]
 have f0:W.frozen? ⟨tb,0,none⟩=false:=by simp[World.frozen?,h]
 have h2:(W.setCell ⟨tb,0,none⟩ (.int .i64 k)).heap[tb]? = some (.cells #[.int .i64 k,.int .i64 a0] 84):=by simp[World.setCell,Array.getElem?_modify,h]
 have c1:(W.setCell ⟨tb,0,none⟩ (.int .i64 k)).cell? ⟨tb,1,none⟩=some (.int .i64 a0):=by simp[World.cell?,h2]
 have f1:(W.setCell ⟨tb,0,none⟩ (.int .i64 k)).frozen? ⟨tb,1,none⟩=false:=by simp[World.frozen?,h2]
 simp[storeVar,Value.cells,Result.andThen,storeCells,Addr.add]
 rw[run_store Tryz.prog W ⟨tb,0,none⟩ _ _ (by rfl)]
 simp only[c0,f0]
 simp
 rw[run_store Tryz.prog _ ⟨tb,1,none⟩ _ _ (by rfl)]
 simp only[c1,f1]
 simp
theorem set63(tb b:Nat)(k a k0 a0:Int)(W:World)(h0:W.cell? ⟨b,0,none⟩=some (.int .i64 k))(h1:W.cell? ⟨b,1,none⟩=some (.int .i64 a))(ht:W.heap[tb]? = some (.cells #[.int .i64 k0,.int .i64 a0] 84)) :
  (ReflectliteValue.set #[.agg #[.pointer (some ⟨12,84,none⟩),.pointer (some ⟨tb,0,none⟩),.int .u64 409],.agg #[.pointer (some ⟨12,84,none⟩),.pointer (some ⟨b,0,none⟩),.int .u64 153]]).run Tryz.prog W
   = .ok (.tuple #[]) ((W.setCell ⟨tb,0,none⟩ (.int .i64 k)).setCell ⟨tb,1,none⟩ (.int .i64 a)):=by
 rw[rls]
 simp only[Sem.run_bind,zst,zvp,Result.andThen]
 have hs:=zvf tb k a k0 a0 W ht
 have hl:=zxc b k a W h0 h1
 simp[ReflectliteValue.flagAddr,Result.andThen,zuh,hl,hs]
structure EtIn(w:World):Prop where
 is:∃ t fr,w.heap[4]? = some (.cells #[.iface 163 (.agg #[.pointer (some ⟨12,80,none⟩)])] t fr)
theorem EtIn.lt{w:World}(h:EtIn w):4 < w.heap.size:=by
 obtain⟨t,fr,h⟩:=h.is
 exact(sz h)
theorem EtIn.of_block{w w':World}(h:EtIn w)(e:w'.heap[4]? = w.heap[4]?):EtIn w':=by
 obtain⟨t,fr,h⟩:=h.is
 exact⟨⟨t,fr,e.trans h⟩⟩
theorem EtIn.below{w w':World}(h:EtIn w)(hb:Below w.heap.size w w'):EtIn w':=h.of_block (hb.block 4 h.lt)
theorem EtIn.kp{X:List Nat}{w w':World}(h:EtIn w)(hb:Kp X w w')(hx:4∉X):EtIn w':=h.of_block (hb.block 4 h.lt hx)
theorem EtIn.cell{w:World}(h:EtIn w):w.cell? ⟨4,0,none⟩=some (.iface 163 (.agg #[.pointer (some ⟨12,80,none⟩)])):=by
 obtain⟨t,fr,h⟩:=h.is
 simp[World.cell?,h]
def TBox(w:World)(tb:Nat)(k a:Int):Prop:=w.heap[tb]? = some (.cells #[.int .i64 k,.int .i64 a] 84)
theorem TBox.lt{w:World}{tb:Nat}{k a:Int}(h:TBox w tb k a):tb < w.heap.size:=(sz h)
theorem zx3(k a k0 a0:Int)(tb:Nat)(w:World)(hE:EtIn w)(ht:TBox w tb k0 a0) :
  Calls Tryz.prog 24 #[.iface 84 (.agg #[.int .i64 k,.int .i64 a]),.iface 86 (.pointer (some ⟨tb,0,none⟩))] w fun ev w'=>ev=.returned (.bool true)/\TBox w' tb k a/\Kp [tb] w w':=by
 have h42:=@run_callFunc_extern Tryz.prog 40 _ (fun args=>ReflectliteValue.unpack (args.getD 0 (.tuple #[]))) Tryz.func40 (by kernel_rfl) (by kernel_rfl) (by kernel_rfl) (by kernel_rfl)
 have h43:=@run_callFunc_extern Tryz.prog 41 _ (ReflectliteValue.methodAny (ReflectliteValue.valueError "reflectlite.Value.Type" 0) (fun t _ _ _=>ReflectliteType.toType t)) Tryz.func41 (by kernel_rfl) (by kernel_rfl) (by kernel_rfl) (by kernel_rfl)
 have h44:=@run_callFunc_extern Tryz.prog 42 _ (ReflectliteValue.method (ReflectliteValue.valueError "reflectlite.Value.IsNil" 0) ReflectliteValue.isNil) Tryz.func42 (by kernel_rfl) (by kernel_rfl) (by kernel_rfl) (by kernel_rfl)
 have h85:=@run_callFunc_extern Tryz.prog 178 _ (ReflectliteType.abiMethod fun t=>do pure (.int .u8 (<-Rtype.kind t))) Tryz.func178 (by kernel_rfl) (by kernel_rfl) (by kernel_rfl) (by kernel_rfl)
 have h95:=@run_callFunc_extern Tryz.prog 188 _ (ReflectliteType.method ReflectliteType.elem) Tryz.func188 (by kernel_rfl) (by kernel_rfl) (by kernel_rfl) (by kernel_rfl)
 have h96:=@run_callFunc_extern Tryz.prog 189 _ (ReflectliteType.relation "Implements" ReflectliteType.implements_) Tryz.func189 (by kernel_rfl) (by kernel_rfl) (by kernel_rfl) (by kernel_rfl)
 have h62:=@run_callFunc_extern Tryz.prog 71 _ ReflectliteType.typeOf Tryz.func71 (by kernel_rfl) (by kernel_rfl) (by kernel_rfl) (by kernel_rfl)
 have h93:=@run_callFunc_extern Tryz.prog 186 _ (ReflectliteType.relation "AssignableTo" ReflectliteType.assignableTo) Tryz.func186 (by kernel_rfl) (by kernel_rfl) (by kernel_rfl) (by kernel_rfl)
 have h63:=@run_callFunc_extern Tryz.prog 72 _ (ReflectliteValue.method (ReflectliteValue.valueError "reflectlite.Value.Elem" 0) ReflectliteValue.elem) Tryz.func72 (by kernel_rfl) (by kernel_rfl) (by kernel_rfl) (by kernel_rfl)
 have h64:=@run_callFunc_extern Tryz.prog 73 _ ReflectliteValue.set Tryz.func73 (by kernel_rfl) (by kernel_rfl) (by kernel_rfl) (by kernel_rfl)
 have tO:=zsd
 have mA:=zfc
 have a63:=zka
 have v63:=zoz
 have f42:=zoy
 have f43:=zwz
 have mK:=znx
 have mE:=zny
 have mI:=zf9
 have k65:=zxe
 have k63:=zxf
 have e65:=zxq
 have i63:=zjv
 have hlt:=ht.lt
 have n44:=zv7 ⟨w.heap.size,0,none⟩ ⟨tb,0,none⟩ ((w.alloc (.cells #[.pointer (some ⟨tb,0,none⟩)] 86)).alloc (.cells #[.pointer (some ⟨12,86,none⟩),.pointer (some ⟨w.heap.size,0,none⟩),.int .u64 150] 120)) (by simp)
 have hg:=hE.cell
 have hgl:=hE.lt
 have hg2:((w.alloc (.cells #[.pointer (some ⟨tb,0,none⟩)] 86)).alloc (.cells #[.pointer (some ⟨12,86,none⟩),.pointer (some ⟨w.heap.size,0,none⟩),.int .u64 150] 120)).cell? ⟨4,0,none⟩=some (.iface 163 (.agg #[.pointer (some ⟨12,80,none⟩)])):=by
  rw[World.cell?_alloc_lt _ _ ⟨4,0,none⟩ (by simp;omega),World.cell?_alloc_lt _ _ ⟨4,0,none⟩ hgl];exact hg
 have el:=zwh ⟨w.heap.size,0,none⟩ ⟨tb,0,none⟩ (((w.alloc (.cells #[.pointer (some ⟨tb,0,none⟩)] 86)).alloc (.cells #[.pointer (some ⟨12,86,none⟩),.pointer (some ⟨w.heap.size,0,none⟩),.int .u64 150] 120)).alloc (.cells #[.pointer (some ⟨12,86,none⟩),.pointer (some ⟨w.heap.size,0,none⟩),.int .u64 150] 120)) (by rw[World.cell?_alloc_lt _ _ ⟨w.heap.size,0,none⟩ (by simp;omega)];simp)
 have htD:TBox ((((w.alloc (.cells #[.pointer (some ⟨tb,0,none⟩)] 86)).alloc (.cells #[.pointer (some ⟨12,86,none⟩),.pointer (some ⟨w.heap.size,0,none⟩),.int .u64 150] 120)).alloc (.cells #[.pointer (some ⟨12,86,none⟩),.pointer (some ⟨w.heap.size,0,none⟩),.int .u64 150] 120)).alloc (.cells #[.int .i64 k,.int .i64 a] 84)) tb k0 a0:=(Below.heap_alloc _ _ _ (by simp;omega)).trans ((Below.heap_alloc _ _ _ (by simp;omega)).trans ((Below.heap_alloc _ _ _ (by simp;omega)).trans ((Below.heap_alloc _ _ _ hlt).trans ht)))
 have st:=set63 tb (w.heap.size+1+1+1) k a k0 a0 ((((w.alloc (.cells #[.pointer (some ⟨tb,0,none⟩)] 86)).alloc (.cells #[.pointer (some ⟨12,86,none⟩),.pointer (some ⟨w.heap.size,0,none⟩),.int .u64 150] 120)).alloc (.cells #[.pointer (some ⟨12,86,none⟩),.pointer (some ⟨w.heap.size,0,none⟩),.int .u64 150] 120)).alloc (.cells #[.int .i64 k,.int .i64 a] 84)) (by rw[World.cell?_alloc_at _ _ _ _ (by simp)];rfl) (by rw[World.cell?_alloc_at _ _ _ _ (by simp)];rfl) htD
 have Q:Hid (TBox ((((((w.alloc (.cells #[.pointer (some ⟨tb,0,none⟩)] 86)).alloc (.cells #[.pointer (some ⟨12,86,none⟩),.pointer (some ⟨w.heap.size,0,none⟩),.int .u64 150] 120)).alloc (.cells #[.pointer (some ⟨12,86,none⟩),.pointer (some ⟨w.heap.size,0,none⟩),.int .u64 150] 120)).alloc (.cells #[.int .i64 k,.int .i64 a] 84)).setCell ⟨tb,0,none⟩ (.int .i64 k)).setCell ⟨tb,1,none⟩ (.int .i64 a)) tb k a/\Kp [tb] w ((((((w.alloc (.cells #[.pointer (some ⟨tb,0,none⟩)] 86)).alloc (.cells #[.pointer (some ⟨12,86,none⟩),.pointer (some ⟨w.heap.size,0,none⟩),.int .u64 150] 120)).alloc (.cells #[.pointer (some ⟨12,86,none⟩),.pointer (some ⟨w.heap.size,0,none⟩),.int .u64 150] 120)).alloc (.cells #[.int .i64 k,.int .i64 a] 84)).setCell ⟨tb,0,none⟩ (.int .i64 k)).setCell ⟨tb,1,none⟩ (.int .i64 a))):=by
  refine⟨?_,?_⟩
  ·unfold TBox at htD ⊢
   simp[World.setCell,Array.getElem?_modify,htD]
  ·exact((((((Kp.alloc _ _ _).trans (Kp.alloc _ _ _)).trans (Kp.alloc _ _ _)).trans (Kp.alloc _ _ _)).trans (Kp.setCell _ ⟨tb,0,none⟩ (by simp) _)).trans (Kp.setCell _ ⟨tb,1,none⟩ (by simp) _))
 clear htD ht hE hg
 go_enter Tryz.func24,Tryz.ntmps24
 go_wp2
 refine wp_loop_rounds 1 ?_
 rw[rounds_succ]
 go_wp2
 go_ret
 exact⟨rfl,Q.o⟩
end Go.Proofs.YtkcmachfagcnaaaGreatDoor.C12
namespace Go.Proofs.YtkcmachfagcnaaaGreatDoor.C12
open Go.RowKit Go.Deep
theorem zX.none(w:World):zX w none []:=⟨by simp,fun i hi=>by cases hi⟩
theorem zF.none(w:World):zF w none []:=⟨by simp,fun i hi=>by cases hi⟩
structure DB(w u:World)(p:Option Addr)(n cap:Nat)(p':Option Addr)(n' cap':Nat)(k a:Int):Prop where
 cb:CBox u w.heap.size p n cap p' n' cap'
 eb:EBox u (w.heap.size+1) k a
 kp:Below w.heap.size w u
section
variable{w u:World}{p:Option Addr}{n cap:Nat}{p':Option Addr}{n' cap':Nat}{k a:Int}
theorem DB.call(h:DB w u p n cap p' n' cap' k a){X:List Nat}{u':World}(hk:Kp X u u')(hX:∀ x∈X,w.heap.size+2<=x):DB w u' p n cap p' n' cap' k a:=
 ⟨h.cb.kpx hk (fun hx=>by have:=hX _ hx;omega),h.eb.kp hk (fun hx=>by have:=hX _ hx;omega),h.kp.trans (hk.below h.kp.size (fun x hx=>by have:=hX x hx;omega))⟩
theorem DB.all(h:DB w u p n cap p' n' cap' k a)(q:Option Addr)(m c:Nat)(q':Option Addr)(m' c':Nat)(k' a':Int):DB w ((((u.setCell ⟨w.heap.size,0,none⟩ (.slice q m c)).setCell ⟨w.heap.size,1,none⟩ (.slice q' m' c')).setCell ⟨w.heap.size+1,0,none⟩ (.int .i64 k')).setCell ⟨w.heap.size+1,1,none⟩ (.int .i64 a')) q m c q' m' c' k' a'/\Kp [w.heap.size,w.heap.size+1] u ((((u.setCell ⟨w.heap.size,0,none⟩ (.slice q m c)).setCell ⟨w.heap.size,1,none⟩ (.slice q' m' c')).setCell ⟨w.heap.size+1,0,none⟩ (.int .i64 k')).setCell ⟨w.heap.size+1,1,none⟩ (.int .i64 a')):=by
 have k1:Kp [w.heap.size] u ((u.setCell ⟨w.heap.size,0,none⟩ (.slice q m c)).setCell ⟨w.heap.size,1,none⟩ (.slice q' m' c')):=(Kp.setCell u ⟨w.heap.size,0,none⟩ (by simp) _).trans (Kp.setCell _ ⟨w.heap.size,1,none⟩ (by simp) _)
 have c1:=(h.cb.put0 q m c).put1 q' m' c'
 have e1:=h.eb.kp k1 (by simp)
 have e2:=e1.set2 k' a'
 have k2:Kp [w.heap.size+1] ((u.setCell ⟨w.heap.size,0,none⟩ (.slice q m c)).setCell ⟨w.heap.size,1,none⟩ (.slice q' m' c')) ((((u.setCell ⟨w.heap.size,0,none⟩ (.slice q m c)).setCell ⟨w.heap.size,1,none⟩ (.slice q' m' c')).setCell ⟨w.heap.size+1,0,none⟩ (.int .i64 k')).setCell ⟨w.heap.size+1,1,none⟩ (.int .i64 a')):=(Kp.setCell _ ⟨w.heap.size+1,0,none⟩ (by simp) _).trans (Kp.setCell _ ⟨w.heap.size+1,1,none⟩ (by simp) _)
 have k3:=(Kp.mono k1 (Y:=[w.heap.size,w.heap.size+1]) (by simp)).trans (Kp.mono k2 (by simp))
 exact⟨⟨c1.kpx k2 (by simp),e2,h.kp.trans (k3.below h.kp.size (by simp))⟩,k3⟩
end
inductive DecPostA(w:World)(S:ByteArray)(e:Ending)(w':World):Prop
 | mk (p:Option Addr) (cap:Nat) (p':Option Addr) (cap':Nat) (he:e=.returned (.tuple #[.agg #[.slice p (decR S).1.texts.length cap,.slice p' (decR S).1.funs.length cap'],.agg #[.int .i64 (decR S).2.1,.int .i64 (decR S).2.2]])) (hT:zX w' p (decR S).1.texts) (hF:zF w' p' (decR S).1.funs) (hb:Below w.heap.size w w') (hA:∃ B,w.heap.size<=B/\zdm B w' p' (decR S).1.funs/\∀ a,p=some a->a.block < B):DecPostA w S e w'
def DecOk(n:Nat):Prop:=∀ (S:ByteArray) (w:World),ShIn w->EtIn w->Calls Tryz.prog n #[.string S] w fun e w'=>DecPostA w S e w'
theorem zwn:DecOk 11:=by
 intro S w hSh hEt
 obtain⟨w0,hw0⟩:∃ w0,w0=((w.alloc (.cells #[.slice none 0 0,.slice none 0 0] 25)).alloc (.cells #[.int .i64 0,.int .i64 0] 30)).alloc (.cells #[.string S,.int .i64 0] 78):=⟨_,rfl⟩
 have hk0:Kp [] w w0:=by rw[hw0];exact((Kp.alloc _ _ _).trans (Kp.alloc _ _ _)).trans (Kp.alloc _ _ _)
 have hs0:w0.heap.size=w.heap.size+3:=by rw[hw0];simp
 have hP0:PBox w0 (w.heap.size+2) S 0:=by
  have:=(MapKept.heap_alloc ((w.alloc (.cells #[.slice none 0 0,.slice none 0 0] 25)).alloc (.cells #[.int .i64 0,.int .i64 0] 30)) (.cells #[.string S,.int .i64 0] 78)).1
  rw[<-hw0] at this
  show w0.heap[w.heap.size+1+1]? = _
  simpa using this
 have hD0:DB w w0 none 0 0 none 0 0 0 0:=by
  refine⟨?_,?_,hk0.below (Nat.le_refl _) (by simp)⟩
  ·have h1:CBox (w.alloc (.cells #[.slice none 0 0,.slice none 0 0] 25)) w.heap.size none 0 0 none 0 0:=(MapKept.heap_alloc w _).1
   rw[hw0]
   exact h1.kpx (kA.trans kA) (by simp)
  ·have h1:=(MapKept.heap_alloc (w.alloc (.cells #[.slice none 0 0,.slice none 0 0] 25)) (.cells #[.int .i64 0,.int .i64 0] 30)).1
   have h2:EBox ((w.alloc (.cells #[.slice none 0 0,.slice none 0 0] 25)).alloc (.cells #[.int .i64 0,.int .i64 0] 30)) (w.heap.size+1) 0 0:=by
    unfold EBox
    simpa using h1
   rw[hw0]
   exact h2.kp kA (by simp)
 have hlt:=hEt.lt
 have Hc:Hid _:=zrj w0 (w.heap.size+2) S hP0 (hSh.of_block (hk0.block 3 hSh.lt (by simp))) (by omega)
 have HE0:Hid _:=hEt.kp hk0 (by simp)
 have HD0:=zh hD0
 have Hw0:=zh hw0
 obtain⟨R,hR⟩:∃ R,R=decR S:=⟨_,rfl⟩
 have HR:=zh hR
 rw[<-hR] at Hc
 clear hk0 hP0 hD0 hSh hEt hw0 hR
 go_enter Tryz.func11,Tryz.ntmps11
 go_upto_region 2 with fail
 rw[<-Hw0.o]
 go_wp2_with fail
 refine cM Hc.o ?_
 rintro e1 w1 ⟨p,n,cap,p',n',cap',rfl,hr,hz,k1⟩
 have hD1:=HD0.o.call k1 (by simp)
 have hE1:EtIn w1:=HE0.o.kp k1 (by simp only[List.mem_singleton];omega)
 obtain⟨w3,hw3⟩:∃ w3,w3=(w1.alloc (.cells #[.slice p n cap,.slice p' n' cap'] 25)).alloc (.cells #[.int .i64 0,.int .i64 0] 84):=⟨_,rfl⟩
 have hk3:Kp [] w1 w3:=by rw[hw3];exact(Kp.alloc _ _ _).trans (Kp.alloc _ _ _)
 have hD3:=hD1.call hk3 (by simp)
 have hC3:CBox w3 w1.heap.size p n cap p' n' cap':=by
  have h1:CBox (w1.alloc (.cells #[.slice p n cap,.slice p' n' cap'] 25)) w1.heap.size p n cap p' n' cap':=(MapKept.heap_alloc w1 _).1
  rw[hw3]
  exact h1.kpx kA (by simp)
 have hT3:TBox w3 (w1.heap.size+1) 0 0:=by
  have:=(MapKept.heap_alloc (w1.alloc (.cells #[.slice p n cap,.slice p' n' cap'] 25)) (.cells #[.int .i64 0,.int .i64 0] 84)).1
  rw[<-hw3] at this
  unfold TBox
  simpa using this
 have hsz1:w.heap.size+3<=w1.heap.size:=by have:=k1.size;omega
 have HD3:=zh hD3
 have HC3:=zh hC3
 have HT3:=zh hT3
 have HE3:Hid _:=hE1.kp hk3 (by simp)
 have Hr:=zh hr
 have Hz:=zh hz
 have HK3:=zh hk3
 have Hw3:=zh hw3
 clear hr hz k1 hD1 hE1 hk3 hD3 hC3 hT3 hw3
 go_upto_region 4 with fail
 rw[<-Hw3.o]
 obtain⟨x0,x1,xl⟩:=CBox.cells HC3.o
 by_cases hk:R.2.1=0
 ·obtain⟨rfl,rfl,hfat,hin⟩:=Hr.o hk
  rw[zcb hk]
  have Ha:Hid _:=zx2 (.iface 86 (.pointer (some ⟨w1.heap.size+1,0,none⟩))) w3
  have Hin:=zh hin
  have Hkf:Hid (_/\_):=⟨hk,hfat⟩
  clear hk hfat hin
  go_wp2_with fail
  refine cM Ha.o ?_
  rintro e4 w4 ⟨rfl,rfl⟩
  obtain⟨c0,c1,cl⟩:=HD3.o.cb.cells
  have cf0:=HD3.o.cb.fz 0
  have cf1:=HD3.o.cb.fz 1
  obtain⟨d0,d1,df⟩:=EBox.cells HD3.o.eb
  have df0:=df 0
  have df1:=df 1
  have dl:=EBox.lt HD3.o.eb
  clear df
  have hfin:=HD3.o.all p R.1.texts.length cap p' R.1.funs.length cap' 0 0
  obtain⟨z0,z1,_⟩:=hfin.1.cb.cells
  obtain⟨y0,y1,_⟩:=EBox.cells hfin.1.eb
  have Hfin:=zh hfin
  clear hfin
  go_wp2
  refine bodyPost_ret (v:=.tuple #[.agg #[.slice p R.1.texts.length cap,.slice p' R.1.funs.length cap'],.agg #[.int .i64 0,.int .i64 0]]) (by simp[results,Tryz.results11,go_sem,z0,z1,y0,y1]) rfl ?_
  have hin2:=Hin.o _ _ (Kp.trans (Kp.mono HK3.o (by simp)) Hfin.o.2) (by intro y hy;simp only[List.mem_cons,List.not_mem_nil,or_false] at hy;omega)
  refine⟨p,cap,p',cap',?_,?_,?_,Hfin.o.1.kp,?_⟩
  ·rw[<-HR.o,Hkf.o.1,Hkf.o.2]
  ·rw[<-HR.o];exact hin2.1
  ·rw[<-HR.o];exact hin2.2.1
  ·rw[<-HR.o]
   obtain⟨B,hB1,hB2,hB3⟩:=hin2.2.2
   exact⟨B,by omega,hB2,hB3⟩
 ·have hz2:=Hz.o hk
  have Ha:Hid _:=zx3 R.2.1 R.2.2 0 0 (w1.heap.size+1) w3 HE3.o HT3.o
  rw[zcc hk]
  have Hz2:=zh hz2
  clear hk hz2
  go_wp2_with fail
  refine cM Ha.o ?_
  rintro e4 w4 ⟨rfl,t4,k4⟩
  have HD4:Hid _:=HD3.o.call k4 (by simp;omega)
  have tc0:w4.cell? ⟨w1.heap.size+1,0,none⟩=some (.int .i64 R.2.1):=by unfold TBox at t4;simp[World.cell?,t4]
  have tc1:w4.cell? ⟨w1.heap.size+1,1,none⟩=some (.int .i64 R.2.2):=by unfold TBox at t4;simp[World.cell?,t4]
  have tl:=t4.lt
  clear t4 k4 x0 x1 xl
  obtain⟨c0,c1,cl⟩:=HD4.o.cb.cells
  have cf0:=HD4.o.cb.fz 0
  have cf1:=HD4.o.cb.fz 1
  obtain⟨d0,d1,df⟩:=EBox.cells HD4.o.eb
  have df0:=df 0
  have df1:=df 1
  have dl:=EBox.lt HD4.o.eb
  clear df
  have hfin:=HD4.o.all none 0 0 none 0 0 R.2.1 R.2.2
  obtain⟨z0,z1,_⟩:=hfin.1.cb.cells
  obtain⟨y0,y1,_⟩:=EBox.cells hfin.1.eb
  have Hfin:=zh hfin
  clear hfin
  go_upto_region 5 with fail
  go_region
  all_goals go_wp2
  all_goals refine bodyPost_ret (v:=.tuple #[.agg #[.slice none 0 0,.slice none 0 0],.agg #[.int .i64 R.2.1,.int .i64 R.2.2]]) (by simp[results,Tryz.results11,go_sem,z0,z1,y0,y1]) rfl ?_
  all_goals refine⟨none,0,none,0,?_,?_,?_,Hfin.o.1.kp.drew,?_⟩
  all_goals rw[<-HR.o,Hz2.o]
  ·rfl
  ·exact zX.none _
  ·exact zF.none _
  ·exact⟨w.heap.size,Nat.le_refl _,⟨[],rfl,List.Pairwise.nil,fun i hi=>by cases hi⟩,fun a e=>by cases e⟩
theorem zjr(w:World)(n:Nat):KBox (w.alloc (.cells (madeCells #[.bool false,.int .i64 0,.int .i64 0] ((n+1) * 3)) 179)) w.heap.size (List.replicate (n+1) ⟨false,0,0⟩):=by
 have hm:∀ k,k < (n+1) * 3->(madeCells #[.bool false,.int .i64 0,.int .i64 0] ((n+1) * 3))[k]? = #[.bool false,.int .i64 0,.int .i64 0][k % 3]?:=fun k hk=>by
  have:k % 3 < 3:=by omega
  simp[madeCells,hk,this]
 refine⟨_,(MapKept.heap_alloc w _).1,by simp[madeCells],?_⟩
 intro i hi
 have hi2:i < n+1:=by simpa using hi
 have h0:=hm (i * 3) (by omega)
 have h1:=hm (i * 3+1) (by omega)
 have h2:=hm (i * 3+2) (by omega)
 rw[show i * 3 % 3=0 by omega] at h0
 rw[show(i * 3+1) % 3=1 by omega] at h1
 rw[show(i * 3+2) % 3=2 by omega] at h2
 simp only[List.getElem_replicate]
 exact⟨by rw[h0];rfl,by rw[h1];rfl,by rw[h2];rfl⟩
theorem KBox.first{w:World}{b n:Nat}(h:KBox w b (List.replicate (n+1) ⟨false,0,0⟩)):KBox (w.setCell ⟨b,0,none⟩ (.bool true)) b (zbt n):=by
 obtain⟨cs,h1,h2,h3⟩:=h
 refine⟨cs.setIfInBounds 0 (.bool true),by simp[World.setCell,Array.getElem?_modify,h1],by simp[h2,zbt],?_⟩
 intro i hi
 have hi2:i < n+1:=by simpa [zbt] using hi
 obtain⟨c0,c1,c2⟩:=h3 i (by simpa using hi2)
 simp only[List.getElem_replicate] at c0 c1 c2
 cases i with
 | zero=>
  refine⟨?_,?_,?_⟩
  ·simp[h2,zbt]
  ·rw[Array.getElem?_setIfInBounds,if_neg (by omega)];simpa [zbt] using c1
  ·rw[Array.getElem?_setIfInBounds,if_neg (by omega)];simpa [zbt] using c2
 | succ j=>
  refine⟨?_,?_,?_⟩
  ·rw[Array.getElem?_setIfInBounds,if_neg (by omega),c0];simp[zbt]
  ·rw[Array.getElem?_setIfInBounds,if_neg (by omega),c1];simp[zbt]
  ·rw[Array.getElem?_setIfInBounds,if_neg (by omega),c2];simp[zbt]
inductive FlowsPost(w:World)(F:Int×Int)(e:Ending)(w':World):Prop
 | mk (pl:Int) (ok:Bool) (he:e=.returned (.tuple #[.int .i64 pl,.bool ok])) (h1:ok=true->F=(0,0)) (h2:ok=false->F=(20,pl)) (hb:Below w.heap.size w w'):FlowsPost w F e w'
structure Flw(w:World)(fp:Nat)(p:Option Addr)(nt cap:Nat)(p':Option Addr)(nf cap' b n:Nat)(L:List Sn)(wx:World):Prop where
 flow:WBox wx fp p nt cap p' nf cap' b (n+1) (n+1)
 known:KBox wx b L
 len:L.length=n+1
 apart:w.heap.size<=fp/\w.heap.size<=b
 kept:Below w.heap.size w wx
theorem flwA{w w0:World}{p:Option Addr}{nt cap:Nat}{p':Option Addr}{nf cap' n:Nat}(hb:Below w.heap.size w w0):Flw w (w0.heap.size+1) p nt cap p' nf cap' w0.heap.size n (List.replicate (n+1) ⟨false,0,0⟩) ((w0.alloc (.cells (madeCells #[.bool false,.int .i64 0,.int .i64 0] ((n+1) * 3)) 179)).alloc (.cells #[.slice p nt cap,.slice p' nf cap',.slice (some ⟨w0.heap.size,0,none⟩) (n+1) (n+1)] 177)).drew:=by
 have h1:=(MapKept.heap_alloc (w0.alloc (.cells (madeCells #[.bool false,.int .i64 0,.int .i64 0] ((n+1) * 3)) 179)) (.cells #[.slice p nt cap,.slice p' nf cap',.slice (some ⟨w0.heap.size,0,none⟩) (n+1) (n+1)] 177)).1
 have h2:Below w.heap.size w (w0.alloc (.cells (madeCells #[.bool false,.int .i64 0,.int .i64 0] ((n+1) * 3)) 179)):=hb.alloc hb.size _
 have:=hb.size
 refine⟨?_,KBox.kp (zjr w0 n) (kA.drew) (by simp),by simp,⟨by omega,by omega⟩,(h2.alloc h2.size _).drew⟩
 unfold WBox
 rw[show(w0.alloc (.cells (madeCells #[.bool false,.int .i64 0,.int .i64 0] ((n+1) * 3)) 179)).heap.size=w0.heap.size+1 by simp] at h1
 exact h1
theorem flwB{w w0:World}{p:Option Addr}{nt cap:Nat}{p':Option Addr}{nf cap' n:Nat}(hb:Below w.heap.size w w0):Flw w w0.heap.size p nt cap p' nf cap' (w0.heap.size+1) n (List.replicate (n+1) ⟨false,0,0⟩) ((w0.alloc (.cells #[.slice p nt cap,.slice p' nf cap',.slice (some ⟨w0.heap.size+1,0,none⟩) (n+1) (n+1)] 177)).alloc (.cells (madeCells #[.bool false,.int .i64 0,.int .i64 0] ((n+1) * 3)) 179)).drew:=by
 have h1:=zjr (w0.alloc (.cells #[.slice p nt cap,.slice p' nf cap',.slice (some ⟨w0.heap.size+1,0,none⟩) (n+1) (n+1)] 177)) n
 have h2:Below w.heap.size w (w0.alloc (.cells #[.slice p nt cap,.slice p' nf cap',.slice (some ⟨w0.heap.size+1,0,none⟩) (n+1) (n+1)] 177)):=hb.alloc hb.size _
 have:=hb.size
 refine⟨(Below.heap_alloc _ _ _ (by simp)).trans (MapKept.heap_alloc w0 _).1,?_,by simp,⟨by omega,by omega⟩,(h2.alloc h2.size _).drew⟩
 rw[show(w0.alloc (.cells #[.slice p nt cap,.slice p' nf cap',.slice (some ⟨w0.heap.size+1,0,none⟩) (n+1) (n+1)] 177)).heap.size=w0.heap.size+1 by simp] at h1
 exact KBox.kp h1 (kr.drew) (by simp)
theorem znd(n:Nat):(zbt n).length=n+1:=by simp[zbt]
theorem zq3(w:World)(p:Option Addr)(nt cap:Nat)(p':Option Addr)(cap':Nat)(fs:List Fn)(f:Fn)(main:Bool)(q:Option Addr)(qc:Nat)(hI:InsIn w q f.ins)(hF:zF w p' fs)(hS:ShIn w)(hG:SgIn w)(hfs:∀ g∈fs,g.ok=true)(hok:f.ok=true)(hop:∀ x∈f.ins,zR nt fs.length f x main=0) :
  Calls Tryz.prog 45 #[.agg #[.slice p nt cap,.slice p' fs.length cap'],.slice q f.ins.length qc] w fun e w'=>FlowsPost w (zFF fs f.ins 0 (zbt f.ins.length)) e w':=by
 have hlen:f.ins.length<=65535:=by
  have:=(Fn.ok_parts hok).2.2.1
  rw[zbj] at this
  exact of_decide_eq_true this
 have hins:=(Fn.ok_parts hok).2.2.2
 have hk1:Below w.heap.size w (w.alloc (.cells #[.slice p nt cap,.slice p' fs.length cap'] 25)):=(Below.refl _ _).alloc (Nat.le_refl _) _
 have hb1:CBox (w.alloc (.cells #[.slice p nt cap,.slice p' fs.length cap'] 25)) w.heap.size p nt cap p' fs.length cap':=(MapKept.heap_alloc w _).1
 have HI:=zh hI
 have HF:=zh hF
 have HS:=zh hS
 have HG:=zh hG
 have Hfs:=zh hfs
 have Hop:=zh hop
 have Hins:=zh hins
 have Hk1:=zh hk1
 have Hb1:=zh hb1
 obtain⟨F,hFF⟩:∃ F,F=zFF fs f.ins 0 (zbt f.ins.length):=⟨_,rfl⟩
 rw[<-hFF]
 have HFF:=zh hFF
 clear hI hF hS hG hfs hop hins hk1 hb1 hFF hok
 go_enter Tryz.func45,Tryz.ntmps45
 go_upto_region 1 with fail
 generalize w.alloc _=w0 at *
 obtain⟨x0,x1,x2⟩:=CBox.cells Hb1.o
 have hmk:=zv3 f.ins.length hlen
 have hnl:(f.ins.length:Int)<=65535:=by omega
 go_cut [6] from 9 to 14 (fun fv wx=>Hid (∃ fp b,fv=.pointer (some ⟨fp,0,none⟩)/\Flw w fp p nt cap p' fs.length cap' b f.ins.length (List.replicate (f.ins.length+1) ⟨false,0,0⟩) wx))
 case first=>
  go_region
  all_goals go_wp2_with fail
  all_goals go_meet
  ·exact⟨_,_,rfl,flwA Hk1.o⟩
  ·exact⟨_,_,rfl,flwB Hk1.o⟩
 case rest=>
  obtain⟨fp,b,rfl,hflw⟩:=hcut.out
  clear hcut x0 x1 x2 hmk
  rename World=>w1
  obtain⟨z0,z1,z2,z3⟩:=hflw.flow.cells
  obtain⟨c0,-,-,fz⟩:=hflw.known.cells 0 (by simp)
  simp only[List.getElem_replicate,Nat.zero_mul] at c0
  have f0:=fz 0
  have hbl:=hflw.known.lt
  have hflw2:Flw w fp p nt cap p' fs.length cap' b f.ins.length (zbt f.ins.length) (w1.setCell ⟨b,0,none⟩ (.bool true)):=by
   have hkk:Kp [b] w1 (w1.setCell ⟨b,0,none⟩ (.bool true)):=Kp.setCell w1 ⟨b,0,none⟩ (by simp) _
   exact⟨hflw.flow.kp hkk (by simpa using hflw.flow.ne hflw.known),hflw.known.first,znd _,hflw.apart,hflw.kept.trans (hkk.below hflw.kept.size (by simpa using hflw.apart.2))⟩
  have Hfl:=zh hflw2
  clear hflw hflw2 fz
  go_upto_region 3 with fail
  clear z0 z1 z2 z3 c0 f0 hbl
  generalize w1.setCell _ _=w2 at *
  go_wp2_with fail
  go_loopg [21] f.ins.length (fun g iv wr=>∃ i:Nat,iv=.int .i64 i/\i<=f.ins.length/\g=f.ins.length - i/\Hid (∃ L,Flw w fp p nt cap p' fs.length cap' b f.ins.length L wr/\LOk L i/\(∀ j,j < i->isAt L j=true)/\zFF fs (f.ins.drop i) i L=F))
  case atStart=>exact⟨0,rfl,by omega,by omega,_,Hfl.o,zja _ _,fun j hj=>by omega,HFF.o.symm⟩
  case round=>
   obtain⟨i,rfl,hi1,rfl,HQ⟩:=hrel
   obtain⟨L,r1,r2,r3,r4⟩:=HQ.o
   by_cases hi:i < f.ins.length
   ·have hi':(i:Int) < f.ins.length:=by omega
    obtain⟨bb,o,hq,hbw,y0,y1,y2⟩:=HI.o.get i hi
    subst hq
    rw[zrf fs f.ins i hi] at r4
    have hxk:=Hins.o _ (List.getElem_mem hi)
    have hxo:=Hop.o _ (List.getElem_mem hi)
    generalize f.ins[i]'hi=x at *
    obtain⟨kk,hkk,hk26⟩:=zc8 (In.ok_op hxk)
    obtain⟨op,a,b'⟩:=x
    simp only at hkk
    subst hkk
    have hbe:=r1.kept
    have v0:=(hbe.cell (p:=⟨bb,o+i * 3,none⟩) hbw).trans y0
    have v1:=(hbe.cell (p:=⟨bb,o+i * 3+1,none⟩) hbw).trans y1
    have v2:=(hbe.cell (p:=⟨bb,o+i * 3+2,none⟩) hbw).trans y2
    have hbr:=lL hbw hbe.size
    have hxb:IBox (wr.alloc (.cells #[.int .i64 (kk:Int),.int .i64 a,.int .i64 b'] 44)) wr.heap.size ⟨kk,a,b'⟩:=(MapKept.heap_alloc wr _).1
    have hka:Kp [] wr (wr.alloc (.cells #[.int .i64 (kk:Int),.int .i64 a,.int .i64 b'] 44)):=kA
    have hfl4:Flw w fp p nt cap p' fs.length cap' b f.ins.length L (wr.alloc (.cells #[.int .i64 (kk:Int),.int .i64 a,.int .i64 b'] 44)):=⟨r1.flow.kp hka (by simp),r1.known.kp hka (by simp),r1.len,r1.apart,hbe.alloc hbe.size _⟩
    have hflow5:=hfl4.flow
    rw[<-r1.len] at hflow5
    have Hc:Hid _:=zh6 w (wr.alloc (.cells #[.int .i64 (kk:Int),.int .i64 a,.int .i64 b'] 44)) fp p nt cap p' cap' b L.length fs f main kk hk26 a b' L i (by rw[r1.len];omega) hxk hxo (by rw[r1.len];omega) (by rw[r1.len];omega) Hfs.o hflow5 hfl4.known HF.o HS.o HG.o hfl4.kept r2
    have hsf:=zo6 fs ⟨kk,a,b'⟩ i L r2 (by rw[r1.len];omega) (zeu hxo hxk Hfs.o).1 r3
    have hfo:LOk (flowP fs ⟨kk,a,b'⟩ i L).2 (i+1):=zq4 r2 (by rw[r1.len];omega)
    have hfl:(flowP fs ⟨kk,a,b'⟩ i L).2.length=f.ins.length+1:=by rw[zmp,r1.len]
    have hfi:(flowP fs ⟨kk,a,b'⟩ i L).1=true->∀ j,j < i+1->isAt (flowP fs ⟨kk,a,b'⟩ i L).2 j=true:=fun h j hj=>by
     by_cases hji:j < i
     ·exact zq5 (r3 j hji)
     ·obtain rfl:j=i:=by omega
      exact zq5 (zq6 h)
    have Hxb:=zh hxb
    have Hfl4:=zh hfl4
    clear r1 r2 r3 hbe hbw y0 y1 y2 hxb hka hfl4 hflow5 hxk hxo
    generalize flowP fs ⟨kk,a,b'⟩ i L=fP at *
    generalize stepP fs ⟨kk,a,b'⟩ i L=sP at *
    obtain⟨c1,L1⟩:=fP
    obtain⟨c2,L2⟩:=sP
    simp only at hsf hfo hfl hfi r4 Hc
    obtain⟨rfl,hs2⟩:=hsf
    have Hq:Hid _:=And.intro hs2 (And.intro hfo (And.intro hfl hfi))
    have Hr4:=zh r4
    clear hs2 hfo hfl hfi r4
    go_upto_region 6 with fail
    clear v0 v1 v2 hbr
    generalize wr.alloc _=w4 at *
    obtain⟨x0,x1,x2,x3⟩:=IBox.cells Hxb.o
    simp only at x0 x1 x2
    go_wp2_with fail
    refine cM Hc.o ?_
    rintro e1 w5 ⟨rfl,k5,kp5⟩
    have Hk5:Hid (_/\_):=⟨k5,kp5⟩
    clear x0 x1 x2 x3 k5 kp5
    cases c2
    ·have hF2:F=(20,(i:Int)):=by rw[<-Hr4.o];rfl
     have Hb5:Hid _:=Hfl4.o.kept.trans (Hk5.o.2.below Hfl4.o.kept.size (by simpa using Hfl4.o.apart.2))
     go_wp2
     exact bodyPost_ret (v:=.tuple #[.int .i64 i,.bool false]) (by simp[results,Tryz.results45,go_sem]) rfl ⟨_,_,rfl,(fun h=>by cases h),(fun _=>hF2),Hb5.o⟩
    ·obtain rfl:L2=L1:=Hq.o.1 rfl
     have Q5:Hid (∃ L,Flw w fp p nt cap p' fs.length cap' b f.ins.length L w5/\LOk L (i+1)/\(∀ j,j < i+1->isAt L j=true)/\zFF fs (f.ins.drop (i+1)) (i+1) L=F):=by
      have h4:=Hfl4.o
      have hk:=Hk5.o
      exact⟨L2,⟨h4.flow.kp hk.2 (by simpa using h4.flow.ne h4.known),hk.1,Hq.o.2.2.1,h4.apart,h4.kept.trans (hk.2.below h4.kept.size (by simpa using h4.apart.2))⟩,Hq.o.2.1,Hq.o.2.2.2 rfl,by rw[<-Hr4.o];rfl⟩
     go_wp2
     go_roundg (f.ins.length - (i+1))
     case measure=>omega
     case rel=>exact⟨i+1,by first | rfl | (congr 1;omega) | go_num,by omega,rfl,Q5⟩
   ·have hi':¬ (i:Int) < f.ins.length:=by omega
    obtain rfl:i=f.ins.length:=by omega
    rw[zbk f.ins f.ins.length (by omega),zFF] at r4
    obtain⟨z0,z1,z2,z3⟩:=r1.flow.cells
    have hlL:=r1.len
    obtain⟨c0,-,-,-⟩:=r1.known.cells f.ins.length (by omega)
    have hbl:=r1.known.lt
    have e0:(L[f.ins.length]?).getD default=L[f.ins.length]'(by omega):=by simp[show f.ins.length < L.length by omega]
    rw[e0] at r4
    have Hb:=zh r1.kept
    have Hr4:=zh r4
    clear r1 r2 r3 e0 r4
    generalize (L[f.ins.length]'(by omega)).is=kn at *
    clear hlL
    go_wp2_with fail
    go_quiet (fail)
    go_wp2
    refine bodyPost_ret (v:=.tuple #[.int .i64 f.ins.length,.bool (!kn)]) (by simp[results,Tryz.results45,go_sem]) rfl ⟨_,_,rfl,fun h=>?_,fun h=>?_,Below.drewN' Hb.o nq⟩
    ·rw[<-Hr4.o]
     cases kn
     ·rfl
     ·cases h
    ·rw[<-Hr4.o]
     cases kn
     ·cases h
     ·rfl
end Go.Proofs.YtkcmachfagcnaaaGreatDoor.C12
