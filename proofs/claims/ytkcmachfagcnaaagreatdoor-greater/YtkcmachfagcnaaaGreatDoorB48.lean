/- Part of Greater. -/
import Derived.Test.YtkcmachfagcnaaaGreatDoorCards
import Derived.Test.YtkcmachfagcnaaaGreatDoorTie
import Derived.JoinedCond
import Derived.Carry
import Derived.Deep.DeepHandedRow
import Derived.Test.YtkcmachfagcnaaaGreatDoorB47
set_option maxRecDepth 100000
namespace Go.Proofs.YtkcmachfagcnaaaGreatDoor
open Go.ChangeShapes Go.WideShapes Go.ChangeAt Go.RowKit Go.Deep
theorem gBases:Tryz.prog.globalNamed "mlcore/code.bases" = some 1:=by kernel_rfl
theorem gBasesT:(Tryz.prog.globals[1]?).map (·.type)=some 57:=by kernel_rfl
theorem gExns:Tryz.prog.globalNamed "mlcore/code.exceptions" = some 5:=by kernel_rfl
theorem gExnsT:(Tryz.prog.globals[5]?).map (·.type)=some 201:=by kernel_rfl
theorem gPow:Tryz.prog.globalNamed "internal/strconv.uint64pow10" = some 9:=by kernel_rfl
theorem gPowT:(Tryz.prog.globals[9]?).map (·.type)=some 254:=by kernel_rfl
theorem zrm:Tryz.prog.cellsOf 57=12:=by kernel_rfl
theorem zol:Tryz.prog.cellsOf 201=6:=by kernel_rfl
theorem zok:Tryz.prog.cellsOf 254=20:=by kernel_rfl
theorem zn1{w:World}{l:List (String×DataW Unit)}(h:laidMet Tryz.prog l w)(hm:("mlcore/code.bases",Rows.laid_mlcore_code_bases)∈l):BsIn w:=by
 obtain⟨ps,hl,_⟩:=h
 obtain⟨g,t,cs,fuel,p,hg,ht,hv,hd⟩:=C12.zdu hl hm
 obtain rfl:=Option.some.inj (gBases.symm.trans hg)
 obtain rfl:=Option.some.inj (gBasesT.symm.trans ht)
 have e:=C12.zdz (ls:=baseT) Tryz.underlying57 zrm hd
 obtain⟨t,fr,hh⟩:=C12.zeg gBases hv
 exact⟨⟨t,fr,by rw[hh,<-e]⟩⟩
theorem zqk{w:World}{l:List (String×DataW Unit)}(h:laidMet Tryz.prog l w)(hm:("mlcore/code.exceptions",Rows.laid_mlcore_code_exceptions)∈l):ExIn w:=by
 obtain⟨ps,hl,_⟩:=h
 obtain⟨g,t,cs,fuel,p,hg,ht,hv,hd⟩:=C12.zdu hl hm
 obtain rfl:=Option.some.inj (gExns.symm.trans hg)
 obtain rfl:=Option.some.inj (gExnsT.symm.trans ht)
 have e:cs.toList=exnV.toList:=C12.zdz (ls:=exnT) Tryz.underlying201 zol hd
 obtain⟨t,fr,hh⟩:=C12.zeg gExns hv
 exact⟨⟨t,fr,by rw[hh,Array.toList_inj.1 e]⟩⟩
theorem zvo:(Rows.laid_internal_strconv_uint64pow10:DataW Unit)=Lib.tabData .u64 Lib.pow10Tab:=by rfl
theorem zqh{w:World}(h:w.ShapedOpen Tryz.prog):∃ k:Int,w.cell? ⟨6,0,none⟩=some (.int .i64 k)/\6 < w.heap.size:=by
 obtain⟨h1,_⟩:=h
 obtain⟨cs,e1,e2,e3⟩:=h1 6 #[.int .i64 0] 3 (by decide +kernel) (by kernel_rfl)
 obtain⟨ts,e4,_,e5⟩:=e3 (by kernel_rfl)
 have e6:ts=[3]:=Option.some.inj (e4.symm.trans (show Tryz.prog.cellTypes Tryz.prog.depth 3=some [3] by kernel_rfl))
 subst e6
 have hs:cs.size=1:=e2
 obtain⟨v,hv⟩:∃ v,cs[0]? = some v:=⟨cs[0],Array.getElem?_eq_getElem (by omega)⟩
 obtain⟨u,hu,hc⟩:=e5 0 v hv
 obtain rfl:3=u:=by simpa using hu
 unfold Cell.ok at hc
 rw[Tryz.underlying3] at hc
 cases v with
 | int k n=>
  obtain⟨rfl,_⟩:=hc
  exact⟨n,by simp[World.cell?,e1,hv],(sz e1)⟩
 | _=>exact absurd hc (by simp)
theorem zte{w:World}{l:List (String×DataW Unit)}(h:laidMet Tryz.prog l w)(hm:("internal/strconv.uint64pow10",Rows.laid_internal_strconv_uint64pow10)∈l)(hs:w.ShapedOpen Tryz.prog):LibIn w:=by
 obtain⟨ps,hl,_⟩:=h
 obtain⟨g,t,cs,fuel,p,hg,ht,hv,hd⟩:=C12.zdu hl hm
 obtain rfl:=Option.some.inj (gPow.symm.trans hg)
 obtain rfl:=Option.some.inj (gPowT.symm.trans ht)
 rw[zvo] at hd
 refine⟨?_,zqh hs⟩
 unfold Lib.TabIs
 rw[hv,<-Lib.cells_of_tab Tryz.underlying254 (show Tryz.prog.underlying 214=some (.int .u64) by kernel_rfl) (by kernel_rfl) zok hd]
theorem zns{W:World}{base:Nat}{n:Int}(h:Value.okWide Tryz.prog W .any base 3 (.int .i64 n)):n<=9223372036854775807:=by
 unfold Value.okWide at h
 rw[Tryz.underlying3] at h
 unfold Cell.okWide at h
 rw[Tryz.underlying3] at h
 simp only at h
 unfold Cell.ok at h
 rw[Tryz.underlying3] at h
 have h2:=h.2
 unfold IntKind.has at h2
 have h3:IntKind.i64.max=9223372036854775807:=by rfl
 omega
section
variable{H:Type}{enc:TypeId×Value->H}{P:Program}{w:World}{base:Nat}{spare:Nat->Bool}{held:Bool}
theorem zi3{t t' t'' t3 t4:TypeId}{args:Array Value}{ds:List (DataW H)}{ps:List MemPlace}(h:DataW.TrodAll enc P w base spare held [t,t',t'',t3,t4] args.toList ds ps) :
  ∃ v v' v'' v3 v4 d d' d'' d3 d4 p p' p'' p3 p4,args=#[v,v',v'',v3,v4]/\ds=[d,d',d'',d3,d4]/\ps=p++(p'++(p''++(p3++p4)))/\DataW.Trod enc P w base spare held t v d p/\DataW.Trod enc P w base spare held t' v' d' p'/\DataW.Trod enc P w base spare held t'' v'' d'' p''/\DataW.Trod enc P w base spare held t3 v3 d3 p3/\DataW.Trod enc P w base spare held t4 v4 d4 p4:=by
 obtain⟨v,vs,d,ds',p,q,hargs,rfl,rfl,hd,hrest⟩:=trodAll_cons h
 obtain⟨v',vs',d',ds'',p',q',rfl,rfl,rfl,hd',hrest'⟩:=trodAll_cons hrest
 obtain⟨v'',vs'',d'',dsq,p'',q'',rfl,rfl,rfl,hd'',hrest''⟩:=trodAll_cons hrest'
 obtain⟨v3,vs3,d3,ds3,p3,q3,rfl,rfl,rfl,hd3,hrest3⟩:=trodAll_cons hrest''
 obtain⟨v4,vs4,d4,ds4,p4,q4,rfl,rfl,rfl,hd4,hrest4⟩:=trodAll_cons hrest3
 obtain⟨rfl,rfl,rfl⟩:=trodAll_nil hrest4
 exact⟨v,v',v'',v3,v4,d,d',d'',d3,d4,p,p',p'',p3,p4,by cases args;simp_all,rfl,by simp,hd,hd',hd'',hd3,hd4⟩
theorem zkr{t t' t'' t3 t4:TypeId}{v v' v'' v3 v4:Value}{d d' d'' d3 d4:DataW H}{p p' p'' p3 p4:List MemPlace}(h:DataW.Trod enc P w base spare held t v d p)(h':DataW.Trod enc P w base spare held t' v' d' p')
  (h'':DataW.Trod enc P w base spare held t'' v'' d'' p'') (h3:DataW.Trod enc P w base spare held t3 v3 d3 p3) (h4:DataW.Trod enc P w base spare held t4 v4 d4 p4):DataW.TrodAll enc P w base spare held [t,t',t'',t3,t4] [v,v',v'',v3,v4] [d,d',d'',d3,d4] (p++(p'++(p''++(p3++p4)))):=⟨p,p'++(p''++(p3++p4)),h,trodAll_mk4 h' h'' h3 h4,rfl⟩
end
end Go.Proofs.YtkcmachfagcnaaaGreatDoor
namespace Go.Proofs.YtkcmachfagcnaaaGreatDoor.greater
open Go.ChangeShapes Go.WideShapes Go.ChangeAt Go.RowKit Go.Deep
theorem own:ownKnob Tryz.prog.godebug=none:=by kernel_rfl
theorem zgv:laidOutB Tryz.prog=true:=by kernel_rfl
set_option maxHeartbeats 1600000 in
set_option maxRecDepth 100000 in
theorem zui(H:Type)(enc:TypeId×Value->H)(W:World)(base:Nat)(args:Array Value)(ds gs:List (DataW H))(before:List MemPlace)
  (hval:∀ (j:Nat) t v,Tryz.f3.params[j]? = some t->args[j]? = some v->Value.okWide Tryz.prog W .any base t v)
  (hW:DataW.Whole enc Tryz.prog Tryz.f3.params.toList Rows.greaterSpec.vars false W args.toList ds gs before) (hL:laidMetH Tryz.prog Rows.greaterRow.laid W) (hS:W.ShapedOpen Tryz.prog) :
  Calls Tryz.prog 3 args W fun e W'=>∃ v,e=.returned v/\Rows.greaterSpec.post enc Tryz.prog Tryz.f3 false true false false W args v W':=by
 have hL':laidMet Tryz.prog [("math/bits.deBruijn32tab",Rows.laid_math_bits_deBruijn32tab),("math/bits.deBruijn64tab",Rows.laid_math_bits_deBruijn64tab),("internal/strconv.uint64pow10",Rows.laid_internal_strconv_uint64pow10),("unicode/utf8.acceptRanges",Rows.laid_unicode_utf8_acceptRanges),("mlcore/code.widths",Rows.laid_mlcore_code_widths),("mlcore/code.shapes",Rows.laid_mlcore_code_shapes),("mlcore/code.signs",Rows.laid_mlcore_code_signs),("mlcore/code.bases",Rows.laid_mlcore_code_bases),("mlcore/code.exceptions",Rows.laid_mlcore_code_exceptions),("unicode/utf8.first",Rows.laid_unicode_utf8_first)] W/\handlesMet Tryz.prog [("errors.errorType",Rows.laid_errors_errorType)] W:=hL
 have hW':=hW
 obtain⟨p,q,hA0,hV,rfl,hfz,hnd⟩:=hW
 have hA:DataW.TrodAll enc Tryz.prog W 0 (fun _=>true) true Tryz.f3.params.toList args.toList ds p:=hA0
 rw[Tryz.params3] at hA hval
 obtain⟨v0,v1,v2,v3,v4,d0,d1,d2,d3,d4,p0,p1,p2,p3,p4,rfl,rfl,rfl,h0,h1,h2,h3,h4⟩:=zi3 hA
 obtain⟨rfl,rfl⟩:=trodVars_none hV
 obtain⟨cs,rfl,_⟩:=okWide_struct Tryz.underlying25 (hval 0 25 v0 rfl rfl)
 obtain⟨cells,rfl⟩:=okWide_int Tryz.underlying3 (hval 1 3 v1 rfl rfl)
 obtain⟨more,rfl⟩:=okWide_int Tryz.underlying3 (hval 2 3 v2 rfl rfl)
 obtain⟨fuel,rfl⟩:=okWide_int Tryz.underlying3 (hval 3 3 v3 rfl rfl)
 obtain⟨cut,rfl⟩:=okWide_int Tryz.underlying3 (hval 4 3 v4 rfl rfl)
 have hcut:=zns (hval 4 3 (.int .i64 cut) rfl rfl)
 clear hA0
 simp only[List.append_nil] at hW'
 have hlt:∀ x∈p0++(p1++(p2++(p3++p4))),x.block < W.heap.size:=fun x hx=>hW'.lt x hx
 have hargs:∀ (W':World),Below W.heap.size W W'->DataW.TrodAll enc Tryz.prog W' 0 (fun b=>decide (b < W.heap.size)) true [25,3,3,3,3] [.agg cs,.int .i64 cells,.int .i64 more,.int .i64 fuel,.int .i64 cut] [d0,d1,d2,d3,d4] (p0++(p1++(p2++(p3++p4)))):=
  fun W' hn=>zkr (Below.trod zgv (by kernel_rfl) (of_decide_eq_true (by kernel_rfl)) h0 hn (fun x hx=>hlt x (by simp[hx]))) (Below.trod zgv (by kernel_rfl) (of_decide_eq_true (by kernel_rfl)) h1 hn (fun x hx=>hlt x (by simp[hx]))) (Below.trod zgv (by kernel_rfl) (of_decide_eq_true (by kernel_rfl)) h2 hn (fun x hx=>hlt x (by simp[hx]))) (Below.trod zgv (by kernel_rfl) (of_decide_eq_true (by kernel_rfl)) h3 hn (fun x hx=>hlt x (by simp[hx]))) (Below.trod zgv (by kernel_rfl) (of_decide_eq_true (by kernel_rfl)) h4 hn (fun x hx=>hlt x (by simp[hx])))
 obtain⟨fu0,hf0⟩:=h0
 obtain⟨c,cp,ccap,cp',ccap',e0,hT,hF,_⟩:=C12.zp4 fu0 _ _ hf0
 have e1:cs=#[.slice cp c.texts.length ccap,.slice cp' c.funs.length ccap']:=by
  apply Array.ext'
  simpa [Value.cells] using e0
 subst e1
 clear e0
 have hTb:Tb W:=⟨zte hL'.1 (by simp) hS,zqk hL'.1 (by simp),C12.zlg hL'.1 (by simp),C12.zn0 hL'.1 (by simp),zn1 hL'.1 (by simp),C12.zw6 hL'.2 (by simp)⟩
 refine(zlk c cp ccap cp' ccap' W cells more fuel cut hTb (C12.zlf hL'.1 (by simp)) hT hF hcut).mono fun e W' ⟨he,hk⟩=>?_
 have hg:Below W.heap.size W W':=hk.below (Nat.le_refl _) (by simp)
 subst he
 refine⟨_,rfl,_,_,_,[],p0++(p1++(p2++(p3++p4))),[],hW',?_,?_,?_,hg.frame _,fun h=>by cases h⟩
 ·exact trodAll_cons_mk (shut_bool Tryz.underlying4 _) trodAll_mk0
 ·exact hargs W' hg
 ·rfl
end Go.Proofs.YtkcmachfagcnaaaGreatDoor.greater
