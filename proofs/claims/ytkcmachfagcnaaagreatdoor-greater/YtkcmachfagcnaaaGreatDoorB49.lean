/- Proved: for every code and every four integers (cells, more, fuel, cut) the law Greater returns true, and its arguments read behind the call as they did before it: what a machine has come to on a heap, other than that its memory is over, it comes to alike on every greater heap, however its instructions are divided. Condition: the listed package-level variables hold what the program's text lays there; the card ties that to the text. -/
import Derived.Test.YtkcmachfagcnaaaGreatDoorB48
namespace Go.Proofs.YtkcmachfagcnaaaGreatDoor.greater
open Go.ChangeShapes Go.WideShapes Go.ChangeAt Go.RowKit Go.Deep
def lay(cs:Array Value):Obj->Obj
 | .cells _ t frozen=>.cells cs t frozen
 | o=>o
def ztf(h:Array Obj):Array Obj:=(((((((((((h.modify 0 (lay signV)).modify 1 (lay baseV)).modify 2 (lay C12.widthCells)).modify 3 (lay C12.shapeCells)).modify 4 (lay #[.iface 163 (.agg #[.pointer (some ⟨12,80,none⟩)])])).modify 5 (lay exnV)).modify 7 (lay (Go.Pinned.utf8FirstZ.map fun(z:Nat)=>Value.int .u8 (z:Int)).toArray)).modify 8 (lay ((([128,191,160,191,128,159,144,191,128,143,0,0,0,0,0,0,0,0,0,0,0,0,0,0,0,0,0,0,0,0,0,0]:List Int).map fun z=>Value.int .u8 z).toArray))).modify 9 (lay (Lib.pow10Tab.map fun z=>Value.int .u64 z).toArray)).modify 10 (lay ((([0,1,28,2,29,14,24,3,30,22,20,15,25,17,4,8,31,27,13,23,21,19,16,7,26,12,18,6,11,5,10,9]:List Int).map fun z=>Value.int .u8 z).toArray))).modify 11 (lay ((([0,1,56,2,57,49,28,3,61,58,42,50,38,29,17,4,62,47,59,36,45,43,51,22,53,39,33,30,24,18,12,5,63,55,48,27,60,41,37,16,46,35,44,21,52,32,23,11,54,26,40,15,34,20,31,10,25,14,19,9,13,8,7,6]:List Int).map fun z=>Value.int .u8 z).toArray)))
theorem fits(os:Os){H:Type}(enc:TypeId×Value->H):∃ w0:World,w0.os=os/\(w0.forCall (fun _ _=>0) ⟨#[],#[.agg #[.slice none 0 0,.slice none 0 0],.int .i64 0,.int .i64 0,.int .i64 0,.int .i64 0],[]⟩).variablesB Tryz.prog=true/\
  ((w0.forCall (fun _ _=>0) ⟨#[],#[.agg #[.slice none 0 0,.slice none 0 0],.int .i64 0,.int .i64 0,.int .i64 0,.int .i64 0],[]⟩).heap.toList.drop Tryz.prog.globals.size).take ((begin Tryz.prog (fun _ _=>0) default).world.heap.size - Tryz.prog.globals.size)=(begin Tryz.prog (fun _ _=>0) default).world.heap.toList.drop Tryz.prog.globals.size/\
  Input.okWideB Tryz.prog (w0.forCall (fun _ _=>0) ⟨#[],#[.agg #[.slice none 0 0,.slice none 0 0],.int .i64 0,.int .i64 0,.int .i64 0,.int .i64 0],[]⟩) 3 ⟨#[],#[.agg #[.slice none 0 0,.slice none 0 0],.int .i64 0,.int .i64 0,.int .i64 0,.int .i64 0],[]⟩=true/\
  laidMetH Tryz.prog Rows.greaterRow.laid (w0.forCall (fun _ _=>0) ⟨#[],#[.agg #[.slice none 0 0,.slice none 0 0],.int .i64 0,.int .i64 0,.int .i64 0,.int .i64 0],[]⟩).memory/\
  ∃ places,DataW.whole enc Tryz.prog (w0.forCall (fun _ _=>0) ⟨#[],#[.agg #[.slice none 0 0,.slice none 0 0],.int .i64 0,.int .i64 0,.int .i64 0,.int .i64 0],[]⟩).memory Tryz.f3.params.toList Rows.greaterSpec.vars false (#[.agg #[.slice none 0 0,.slice none 0 0],.int .i64 0,.int .i64 0,.int .i64 0,.int .i64 0]:Array Value).toList 8=some ([.agg [.nil,.nil],.lit (.int .i64 0),.lit (.int .i64 0),.lit (.int .i64 0),.lit (.int .i64 0)],[],places):=
 ⟨{World.holding Tryz.prog os ⟨#[],#[],[]⟩ with heap:=ztf (World.holding Tryz.prog os ⟨#[],#[],[]⟩).heap},rfl,by kernel_rfl,by kernel_rfl,by kernel_rfl,laidMetH_of_parts (laidMet_of_run' 8 (by kernel_rfl) (by kernel_rfl)) (by kernel_rfl),[],by kernel_rfl⟩
set_option maxRecDepth 100000 in
theorem zxd(os:Os)(started:os.Started)(H:Type)(enc:TypeId×Value->H)(F:Stop.Interp) :
  ReturnsInHanded {} Tryz.checked os 3 .any ((OpenSpec.ofChange Rows.greaterSpec).preRow enc Tryz.prog Tryz.f3 Rows.greaterRow.domain false Rows.greaterRow.laid) (((OpenSpec.ofChange Rows.greaterSpec).at F).post enc Tryz.prog Tryz.f3 false true false false):=by
 obtain⟨w0,hos,hvb,hhp,hok,hlm,places,hx⟩:=fits os enc
 refine returnsInHanded_of_row (C:=Tryz.checked) (s:=OpenSpec.ofChange Rows.greaterSpec) own started (by kernel_rfl) Tryz.func3
  (witness_row_at (enc:=enc) (C:=Tryz.checked) false w0 #[.agg #[.slice none 0 0,.slice none 0 0],.int .i64 0,.int .i64 0,.int .i64 0,.int .i64 0] hos hvb hhp hok
   (OpenSpec.preRow_of_cond 8 hx (by kernel_rfl) (fun k hk=>by cases hk) (by kernel_rfl) hlm)) ?_
 intro W base args ds gs before hval hW _ _ _ hL hS _
 exact zui H enc W base args ds gs before hval hW hL hS
theorem said:Rows.GreaterSaid:=
 OpenClaim.holds_of_cond 3 Tryz.f3 rfl rfl rfl rfl rfl rfl rfl ⟨rfl,rfl,rfl,rfl,rfl⟩ rfl rfl rfl rfl rfl (by kernel_rfl) Tryz.func3 (by kernel_rfl)
  (of_decide_eq_true (by kernel_rfl)) (by unfold Func.isWrapper;first | (rw[if_pos (by decide +kernel)];kernel_rfl) | (rw[if_neg (by decide +kernel)];exact⟨rfl,rfl⟩))
  (fun os started H enc _ F=>by rw[OpenClaim.pre_eq_preRow];exact zxd os started H enc F)
theorem plain(f:FuncId)(fn:Func)(hf:Tryz.pinned.checked.prog.funcNamed "mlcore/mlcorelaw13.Greater" = some f)(hfn:Tryz.pinned.checked.prog.funcs[f]? = some fn) :
  true=Tryz.pinned.checked.prog.looks []/\∀ (j:Nat) t,fn.params[j]? = some t->Tryz.pinned.checked.prog.wantsStandIn t=false:=by
 obtain rfl:f=3:=Option.some.inj ((show Tryz.prog.funcNamed "mlcore/mlcorelaw13.Greater" = some 3 by kernel_rfl).symm.trans hf) |>.symm
 obtain rfl:fn=Tryz.f3:=(Option.some.inj (Tryz.func3.symm.trans hfn)).symm
 refine⟨by kernel_rfl,fun j t ht=>?_⟩
 rw[Tryz.params3] at ht
 obtain rfl | rfl:t=25\/t=3:=by simpa using Array.mem_of_getElem? ht
 ·exact(show Tryz.prog.wantsStandIn 25=false by kernel_rfl)
 ·exact(show Tryz.prog.wantsStandIn 3=false by kernel_rfl)
theorem card:Rows.GreaterCardSaid:=
 Claim7.holds_tied_plain_at .later [] _ _ _ _ said (fun _ h=>by cases h) (by kernel_rfl) (fun _ h=>by cases h) greater_row_tie rfl ⟨rfl,rfl⟩ (by kernel_rfl) rfl plain (by kernel_rfl)
end Go.Proofs.YtkcmachfagcnaaaGreatDoor.greater
namespace Go.Proofs.YtkcmachfagcnaaaGreatDoor
theorem greater_card:Rows.GreaterCardSaid:=greater.card
end Go.Proofs.YtkcmachfagcnaaaGreatDoor
