/- Part of Greater. -/
import Derived.Test.YtkcmachfagcnaaaGreatDoorB25
set_option maxHeartbeats 8000000
set_option maxRecDepth 100000
namespace Go.Proofs.YtkcmachfagcnaaaGreatDoor
open Go.RowKit Go.Deep Go.IntWalk
open C12 (Cd Fn In zT)
theorem zcg:∀ (k:Nat) (l:List UInt8),(packs k l).length=k
 | 0,_=>rfl
 | k+1,l=>by rw[packs,List.length_cons,zcg k]
theorem zl8:∀ (k:Nat) (l:List UInt8) (i:Nat) (hi:i < (packs k l).length),(packs k l)[i]'hi=num (pack8 (l.drop (8 * i)))
 | k+1,l,0,_=>rfl
 | k+1,l,i+1,hi=>by
  have h:=zl8 k (l.drop 8) i (by rw[zcg] at hi ⊢;omega)
  rw[List.drop_drop,show 8+8 * i=8 * (i+1) by omega] at h
  exact h
theorem zsv(l:List UInt8):wfC ⟨false,pack8 l⟩:=by
 unfold wfC pack8
 refine zhu ?_
 rw[IntKind.wrap_i64]
 simp only
 omega
theorem zsi(s:ByteArray)(k:Nat):(s.extract k s.size).data.toList=s.data.toList.drop k:=by
 rw[ByteArray.data_extract,Array.toList_extract]
 simp[List.extract]
 rw[List.take_of_length_le]
 simp
theorem zvd(s:ByteArray)(k:Nat)(hk:k<=s.size)(wx:World):(Instr.slice 9 (.string s) (some (.int .i64 (k:Int))) none none).run Tryz.prog wx=.ok (.string (s.extract k s.size)) wx:=by
 have h1:(0:Int)<=(k:Int):=Int.natCast_nonneg _
 have h2:=Int.ofNat_le.2 hk
 simp[go_sem,h1,h2]
theorem zot(i:Nat)(h:i<=200):IntKind.i64.wrap (8 * (i:Int))=((8 * i:Nat):Int):=by
 rw[IntKind.wrap_i64]
 omega
section
variable{X:Fx}{w:World}{g:Pg}{m:AM}{R:Int->Int->Prop}
theorem ze0(h:J X w g m R)(hn:0 < m.s.cA.length)(hnx:m.next+1<=1000000000)(s:ByteArray)(hs:s.size<=200):Calls Tryz.prog 86 #[.pointer (some ⟨X.mm,0,none⟩),.string s] w fun e w'=>zP X w g m (.make (zTT s.data.toList)) e w':=by
 have hsl:s.data.toList.length=s.size:=by simp
 have hact:zTT s.data.toList=⟨2,s.size,packs ((s.size+7) / 8) s.data.toList⟩:=by
  unfold zTT
  rw[hsl]
 rw[hact]
 have hk1:Kp [] w (w.alloc (.cells #[.bool false,.int .i64 0] 67)):=kA
 have hJ1:=h.kp hk1
 have Hbx:Hid ((w.alloc (.cells #[.bool false,.int .i64 0] 67)).heap[w.heap.size]? = some (.cells #[.bool false,.int .i64 0] 67)):=zab w _
 have Hoff:=zh (h.off (w':=w.alloc (.cells #[.bool false,.int .i64 0] 67)) (b:=w.heap.size) (Nat.le_refl _) (by simp))
 have HM:Hid _:=zgt hJ1 hn hnx 2 s.size ((s.size+7) / 8) (by omega)
 have Hm1:Hid (Mv X w g (w.alloc (.cells #[.bool false,.int .i64 0] 67)) g):=Mv.zk hk1
 have Hwc:=zh h.bl.size
 have hd1:IntKind.i64.wrap ((s.size:Int)+8)=((s.size+8:Nat):Int):=by rw[IntKind.wrap_i64];omega
 have hd2:IntKind.i64.wrap (((s.size+8:Nat):Int) - 1)=((s.size+7:Nat):Int):=by rw[IntKind.wrap_i64];omega
 have hd3:(((s.size+7:Nat):Int)).tdiv 8=(((s.size+7) / 8:Nat):Int):=by
  rw[Int.tdiv_eq_ediv_of_nonneg (by omega)]
  omega
 have hd4:IntKind.i64.wrap (((s.size+7) / 8:Nat):Int)=(((s.size+7) / 8:Nat):Int):=by rw[IntKind.wrap_i64];omega
 have Hsz2:=zh hs
 clear h hJ1 hk1 hn hnx hact hsl hs
 generalize hK:(s.size+7) / 8=K at *
 have HK:=zh hK.symm
 clear hK
 generalize s.size+7=s7 at hd2 hd3
 generalize s.size+8=s8 at hd1 hd2
 go_enter Tryz.func86,Tryz.ntmps86
 go_wp2_with fail
 generalize w.alloc _=w1 at *
 generalize hb0e:w.heap.size=b0 at *
 have Hsz:Hid (w.heap.size<=b0):=by unfold Hid;omega
 clear hb0e
 refine cM HM.o ?_
 intro e w2 q
 cases q with
 | no w2 g' R' hr hJ hmv=>
  obtain⟨ho2,hbk⟩:=Hoff.o.mv hmv
  have hb2:=hbk.trans Hbx.o
  have hk3:Kp [] w2 (w2.alloc (.cells #[.bool false,.int .i64 0] 67)):=kA
  have hb0:=(hk3.block b0 ho2.1 (by simp)).trans hb2
  have ho0:Off X (w2.alloc (.cells #[.bool false,.int .i64 0] 67)) g' b0:=⟨lL ho2.1 hk3.size,ho2.2⟩
  obtain⟨c0,c1,z0,z1,cl⟩:=zaa hb0
  have hb3:(w2.alloc (.cells #[.bool false,.int .i64 0] 67)).heap[w2.heap.size]? = some (.cells #[.bool false,.int .i64 0] 67):=zab w2 _
  obtain⟨e0,e1,_,_,el⟩:=zaa hb3
  have hb4:=zae hb0 (.bool false) (.int .i64 0)
  obtain⟨d0,d1,_⟩:=zaa hb4
  have Q:Hid (zP X w g m (.make ⟨2,s.size,packs K s.data.toList⟩) (.returned (.tuple #[.agg #[.bool false,.int .i64 0],.int .i64 3])) (((w2.alloc (.cells #[.bool false,.int .i64 0] 67)).setCell ⟨b0,0,none⟩ (.bool false)).setCell ⟨b0,1,none⟩ (.int .i64 0))):=by
   refine zP.fail 3 m.bump (failOf.make _ (by simp only;rw[zcg];exact hr)) _ g' R' ((hJ.kp hk3).box2 ho0 Hwc.o _ _) (((Hm1.o.trans (hmv.trans (Mv.zk hk3))).setOff Hsz.o _ _).setOff Hsz.o _ _)
  clear hJ hmv hr ho2 hbk hb2 hb3 hb4 hk3 hb0 ho0
  go_wp2_with fail
  exact bR (by simp[results,Tryz.results86,go_sem,d0,d1]) Q.o
 | yes w2 g' R' x hr hJ hR hwf hmv=>
  obtain⟨ho2,hbk⟩:=Hoff.o.mv hmv
  have hb2:=hbk.trans Hbx.o
  have hk3:Kp [] w2 (w2.alloc (.cells #[.bool true,.int .i64 x] 67)):=kA
  have hJ3:=hJ.kp hk3
  have hb3:(w2.alloc (.cells #[.bool true,.int .i64 x] 67)).heap[w2.heap.size]? = some (.cells #[.bool true,.int .i64 x] 67):=zab w2 _
  have hb0:=(hk3.block b0 ho2.1 (by simp)).trans hb2
  have ho3:Off X (w2.alloc (.cells #[.bool true,.int .i64 x] 67)) g' w2.heap.size:=hJ.off (Nat.le_refl _) (by simp)
  have ho0:Off X (w2.alloc (.cells #[.bool true,.int .i64 x] 67)) g' b0:=⟨lL ho2.1 hk3.size,ho2.2⟩
  have Hm3:=zh (Hm1.o.trans (hmv.trans (Mv.zk hk3)))
  have HF:Hid (∀ wx,Kp [] (w2.alloc (.cells #[.bool true,.int .i64 x] 67)) wx->(wx.cell? ⟨X.mm,2,none⟩=some (.pointer (some ⟨X.hp,0,none⟩))/\X.mm < wx.heap.size)/\wx.cell? ⟨w2.heap.size,0,none⟩=some (.bool true)/\wx.cell? ⟨w2.heap.size,1,none⟩=some (.int .i64 x)/\w2.heap.size < wx.heap.size):=fun wx hx=>by
   have e1:=(hx.block _ ho3.1 (by simp)).trans hb3
   have hb1:=hJ3.box.kp hx (by simp)
   exact⟨⟨hb1.heap.1,hb1.lt⟩,by simp only[World.cell?,e1];rfl,by simp only[World.cell?,e1];rfl,(sz e1)⟩
  have HS:Hid (_/\_/\_/\_/\_/\_/\_):=⟨hb3,hb0,ho3,ho0,hR,hr,hwf⟩
  have HJ3:=zh hJ3
  have HLen:Hid (∀ wx,Kp [] (w2.alloc (.cells #[.bool true,.int .i64 x] 67)) wx->Calls Tryz.prog 76 #[.pointer (some ⟨X.hp,0,none⟩),.int .i64 x] wx fun e w'=>e=.returned (.int .i64 K)/\Kp [] (w2.alloc (.cells #[.bool true,.int .i64 x] 67)) w'):=fun wx hx=>by
   obtain⟨t,u,ht,hu,hth⟩:=hJ3.th x m.next hR
   have hz:=(hJ3.pget wx hx x t ht).2.2.1
   have e:t.fs.length=K:=by
    rw[hth.fs.len]
    have e2:(m.make ⟨2,s.size,List.replicate K default⟩).D m.next=some ⟨2,s.size,List.replicate K default⟩:=zbf _ _ _
    rw[e2] at hu
    cases hu
    simp
   rw[e] at hz
   exact hz
  have HK0:Hid (Kp [] (w2.alloc (.cells #[.bool true,.int .i64 x] 67)) (w2.alloc (.cells #[.bool true,.int .i64 x] 67)).drew):=kr.drew
  clear hJ hJ3 hmv hr ho2 hbk hb2 hb3 hk3 hb0 ho0 ho3 hR hwf hd1 hd2 hd3 hd4
  go_upto_region 3 with fail
  generalize w2.alloc _=w3 at *
  generalize w2.heap.size=b1 at *
  refine rQ HK0.o (fun ops Hops=>?_)
  repeat
   (refine wQ ?_;apply xI;(·intro wx hwx;obtain⟨⟨f3,f4⟩,f0,f1,f2⟩:=HF.o wx hwx;go_simp <;> first | with_reducible rfl | with_reducible exact⟨rfl,rfl⟩ | exact HLen.o _ hwx);try go_simp)
  refine wpQuiet_nil ?_
  clear Hops ops
  intro w4 hw4
  have Hw4:=zh hw4
  clear hw4
  go_wp2_with fail
  go_loopw [30] (fun iv wr=>∃ (i:Nat),i<=K/\iv=.int .i64 (i:Nat)/\Hid (∃ ts',J X wr {g' with ts:=ts'} (m.make ⟨2,s.size,fsAt (packs K s.data.toList) K i⟩) R'/\Mv X w3 g' wr {g' with ts:=ts'})) (fun i _=>K - (intOf i).toNat)
  case atStart=>
   refine⟨0,Nat.zero_le _,rfl,g'.ts,?_,Mv.zk Hw4.o⟩
   rw[zgy]
   exact HJ3.o.kp Hw4.o
  case round=>
   obtain⟨i,hi,rfl,HL⟩:=hrel
   obtain⟨ts',hJr,hmr⟩:=HL.o
   obtain⟨hb3,hb0,ho3,ho0,hR,hr,hwf⟩:=HS.o
   obtain⟨ho3r,hk3r⟩:=ho3.mv hmr
   obtain⟨ho0r,hk0r⟩:=ho0.mv hmr
   have hb3r:=hk3r.trans hb3
   have hb0r:=hk0r.trans hb0
   by_cases hin:i < K
   ·have h1:=Int.ofNat_lt.2 hin
    have h8i:8 * i<=s.size/\i<=200:=by have:=HK.o;have:=Hsz2.o;omega
    have h2:=zge i (Nat.le_trans h8i.2 (by decide))
    have hw1:=zot i h8i.2
    have hle:=Int.ofNat_le.2 h8i.1
    have hnn:(0:Int)<=((8 * i:Nat):Int):=Int.natCast_nonneg _
    have HF:Hid (∀ wx,Kp [] wr wx->(wx.cell? ⟨X.mm,2,none⟩=some (.pointer (some ⟨X.hp,0,none⟩))/\X.mm < wx.heap.size)/\wx.cell? ⟨b1,0,none⟩=some (.bool true)/\wx.cell? ⟨b1,1,none⟩=some (.int .i64 x)/\b1 < wx.heap.size):=fun wx hx=>by
     have e1:=(hx.block _ ho3r.1 (by simp)).trans hb3r
     have hb1:=hJr.box.kp hx (by simp)
     exact⟨⟨hb1.heap.1,hb1.lt⟩,by simp only[World.cell?,e1];rfl,by simp only[World.cell?,e1];rfl,(sz e1)⟩
    have HP:Hid (∀ wx,Kp [] wr wx->Calls Tryz.prog 101 #[.string (s.extract (8 * i) s.size)] wx fun e w'=>e=.returned (.int .i64 (pack8 (s.data.toList.drop (8 * i))))/\Kp [] wr w'):=fun wx hx=>cM (znq wx _) (fun e w' q=>⟨by rw[q.1,zsi],by rw[q.2];exact hx⟩)
    have HN:Hid (∀ wx,Kp [] wr wx->Calls Tryz.prog 85 #[.int .i64 (pack8 (s.data.toList.drop (8 * i)))] wx fun e w'=>e=.returned (.agg #[.bool false,.int .i64 (pack8 (s.data.toList.drop (8 * i)))])/\Kp [] wr w'):=fun wx hx=>cM (za0 wx _) (fun e w' q=>⟨q.1,hx.trans q.2⟩)
    have HSet:Hid (∀ wx,Kp [] wr wx->Calls Tryz.prog 52 #[.pointer (some ⟨X.hp,0,none⟩),.int .i64 x,.int .i64 i,.agg #[.bool false,.int .i64 (pack8 (s.data.toList.drop (8 * i)))]] wx fun e w'=>e=.returned (.tuple #[])/\∃ ts2,J X w' {g' with ts:=ts2} (m.make ⟨2,s.size,fsAt (packs K s.data.toList) K (i+1)⟩) R'/\Mv X w3 g' w' {g' with ts:=ts2}):=fun wx hx=>by
     have hJx:=hJr.kp hx
     refine cM (zdp hJx hR i (by rw[zd8];simp only;rw[zin _ _ _ (zcg _ _) hi];exact hin) ⟨false,pack8 (s.data.toList.drop (8 * i))⟩ (num (pack8 (s.data.toList.drop (8 * i)))) (zb5 _ _) (zsv _)) ?_
     rintro e w' ⟨rfl,ts2,hJ2,hm2⟩
     refine⟨rfl,ts2,?_,hmr.trans ((Mv.zk hx).trans hm2)⟩
     have hil:i < (packs K s.data.toList).length:=by rw[zcg];exact hin
     rw[zgc,<-zl8 K s.data.toList i hil,zgz _ _ _ (zcg _ _)] at hJ2
     exact hJ2
    have hsub:∀ wx:World,(Instr.slice 9 (.string s) (some (.int .i64 ((8 * i:Nat):Int))) none none).run Tryz.prog wx=.ok (.string (s.extract (8 * i) s.size)) wx:=fun wx=>zvd s (8 * i) h8i.1 wx
    clear hJr hmr hb3 hb0 ho3 ho0 hR hr hwf ho3r hk3r ho0r hk0r hb3r hb0r h8i
    generalize pack8 (s.data.toList.drop (8 * i))=pk at *
    generalize s.extract (8 * i) s.size=sx at *
    generalize 8 * i=i8 at *
    go_upto_region 6 with fail
    refine zan 13 (C:=fun wx=>Kp [] wr wx) (by kernel_rfl) ?_
    refine qT 0 rfl ?_
    apply xI
    (intro wx hwx;go_simp <;> rfl)
    refine qT 1 rfl ?_
    apply xI
    (intro wx hwx;go_simp <;> rfl)
    refine qT 2 rfl ?_
    apply xI
    (intro wx hwx;go_simp <;> rfl)
    refine qT 3 rfl ?_
    apply xI
    (intro wx hwx;obtain⟨⟨f3,f4⟩,f0,f1,f2⟩:=HF.o wx hwx;go_simp <;> rfl)
    refine qT 4 rfl ?_
    apply xI
    (intro wx hwx;go_simp <;> rfl)
    refine qT 5 rfl ?_
    apply xI
    (intro wx hwx;obtain⟨⟨f3,f4⟩,f0,f1,f2⟩:=HF.o wx hwx;go_simp <;> rfl)
    refine qT 6 rfl ?_
    apply xI
    (intro wx hwx;go_simp <;> rfl)
    refine qT 7 rfl ?_
    apply xI
    (intro wx hwx;go_simp <;> rfl)
    refine qT 8 rfl ?_
    apply xI
    (intro wx hwx;go_simp <;> rfl)
    refine qT 9 rfl ?_
    apply xI
    (intro wx hwx;go_simp <;> rfl)
    refine qT 10 rfl ?_
    apply xI
    (intro wx hwx;go_simp <;> rfl)
    refine oL 11 (Kp.refl _ _).drew rfl (fun K hK=>?_)
    go_simp
    refine cM (HP.o _ (Kp.refl _ _).drew) ?_
    rintro e7 w7 ⟨rfl,hw7⟩
    refine hK _ _ ?_
    clear hK K
    refine oL 12 hw7 rfl (fun K hK=>?_)
    go_simp
    refine cM (HN.o _ hw7) ?_
    rintro e9 w9 ⟨rfl,hw9⟩
    refine hK _ _ ?_
    clear hK K
    refine oL 13 hw9 rfl (fun K hK=>?_)
    go_simp
    refine cM (HSet.o _ hw9) ?_
    rintro e10 w10 ⟨rfl,ts2,hJ2,hm2⟩
    refine hK _ _ ?_
    clear hK K
    refine zas (by kernel_rfl) (by kernel_rfl) ?_
    go_simp
    have HQ:Hid (∃ ts',J X w10 {g' with ts:=ts'} (m.make ⟨2,s.size,fsAt (packs K s.data.toList) K (i+1)⟩) R'/\Mv X w3 g' w10 {g' with ts:=ts'}):=⟨ts2,hJ2,hm2⟩
    have Hin:=zh hin
    clear hJ2 hm2 hw9 hw7 h1 hw1 hin hi hle hnn hsub
    go_wp2_with fail
    go_roundw
    case rel=>exact⟨i+1,Hin.o,by first | rfl | (congr 1;omega) | go_num,HQ⟩
    case measure=>have:=Hin.o;rw[h2];clear h2;simp[intOf];omega
   ·have e:i=K:=zdf hi hin
    subst e
    have h1:¬ ((i:Int) < (i:Int)):=Int.lt_irrefl _
    rw[zio _ _ (zcg _ _)] at hJr
    obtain⟨c0,c1,z0,z1,cl⟩:=zaa hb0r
    obtain⟨e0,e1,_,_,el⟩:=zaa hb3r
    have hb4:=zae hb0r (.bool true) (.int .i64 x)
    obtain⟨d0,d1,_⟩:=zaa hb4
    have Q:Hid (zP X w g m (.make ⟨2,s.size,packs i s.data.toList⟩) (.returned (.tuple #[.agg #[.bool true,.int .i64 x],.int .i64 0])) ((wr.setCell ⟨b0,0,none⟩ (.bool true)).setCell ⟨b0,1,none⟩ (.int .i64 x))):=zP.val ⟨true,x⟩ ⟨true,m.next⟩ _ (valOf.make _ (by simp only;rw[zcg];exact hr)) _ _ R' (hJr.box2 ho0r Hwc.o _ _) ⟨rfl,(fun e=>by cases e),fun _=>hR⟩ hwf (((Hm3.o.trans hmr).setOff Hsz.o _ _).setOff Hsz.o _ _)
    clear hJr hmr hb3 hb0 ho3 ho0 hR hr hwf ho3r hk3r ho0r hk0r hb3r hb0r hb4
    go_wp2_with fail
    exact bR (by simp[results,Tryz.results86,go_sem,d0,d1]) Q.o
end
def purV:Act1->Value
 | .give v=>.tuple #[.agg #[.bool v.p,.int .i64 v.n],.int .i64 0]
 | .raise k=>.tuple #[.agg #[.bool false,.int .i64 0],.int .i64 k]
 | _=>.tuple #[.agg #[.bool false,.int .i64 0],.int .i64 4]
theorem zcx(a:Act1):∃ p n f,purV a=.tuple #[.agg #[.bool p,.int .i64 n],.int .i64 f]:=by
 cases a <;> exact⟨_,_,_,rfl⟩
theorem Kp.box2{w w2:World}{b:Nat}(h:Kp [] w w2)(hb:w.heap.size<=b)(u1 u2:Value):Kp [] w ((w2.setCell ⟨b,0,none⟩ u1).setCell ⟨b,1,none⟩ u2):=(h.then (Kp.setCell (X:=[b]) w2 _ (by simp) _) (fun x hx=>Or.inr (by rw[List.mem_singleton.1 hx];exact hb))).then (Kp.setCell (X:=[b]) _ _ (by simp) _) (fun x hx=>Or.inr (by rw[List.mem_singleton.1 hx];exact hb))
theorem zad{w w2:World}{b:Nat}{o:Obj}(h:w.heap[b]? = some o)(hk:Kp [] w w2):w2.heap[b]? = some o:=(hk.block _ (sz h) (by simp)).trans h
theorem zca(w:World)(n:Int):Calls Tryz.prog 105 #[.int .i64 n] w fun e w'=>e=.returned (purV (inR n))/\Kp [] w w':=by
 have Hn:Hid (Calls Tryz.prog 85 #[.int .i64 n] (w.alloc (.cells #[.bool false,.int .i64 0] 67)) fun e w'=>e=.returned (.agg #[.bool false,.int .i64 n])/\Kp [] (w.alloc (.cells #[.bool false,.int .i64 0] 67)) w'):=za0 _ n
 have Hk:Hid (Kp [] w (w.alloc (.cells #[.bool false,.int .i64 0] 67))):=kA
 have Hbx:Hid ((w.alloc (.cells #[.bool false,.int .i64 0] 67)).heap[w.heap.size]? = some (.cells #[.bool false,.int .i64 0] 67)):=zab w _
 unfold inR
 by_cases h1:n < -1000000000
 ·rw[if_pos (Or.inl h1)]
  go_enter Tryz.func105,Tryz.ntmps105
  go_wp2_with fail
  exact bodyPost_ret (by simp[results,Tryz.results105,go_sem];rfl) rfl ⟨rfl,Hk.o⟩
 ·by_cases h2:1000000000 < n
  ·rw[if_pos (Or.inr h2)]
   go_enter Tryz.func105,Tryz.ntmps105
   go_wp2_with fail
   exact bodyPost_ret (by simp[results,Tryz.results105,go_sem];rfl) rfl ⟨rfl,Hk.o⟩
  ·rw[if_neg (by omega)]
   go_enter Tryz.func105,Tryz.ntmps105
   go_wp2_with fail
   refine cM Hn.o ?_
   rintro e w2 ⟨rfl,hk2⟩
   have hb2:=zad Hbx.o hk2
   obtain⟨c0,c1,z0,z1,cl⟩:=zaa hb2
   obtain⟨d0,d1,_⟩:=zaa (zae hb2 (.bool false) (.int .i64 n))
   have Q:Hid (Kp [] w ((w2.setCell ⟨w.heap.size,0,none⟩ (.bool false)).setCell ⟨w.heap.size,1,none⟩ (.int .i64 n))):=(Hk.o.trans hk2).box2 (Nat.le_refl _) _ _
   clear hk2 hb2
   go_wp2_with fail
   exact bodyPost_ret (by simp[results,Tryz.results105,go_sem,d0,d1];rfl) rfl ⟨rfl,Q.o⟩
theorem wrA(a b:Int)(ha:-1000000000<=a/\a<=1000000000)(hb:-1000000000<=b/\b<=1000000000):IntKind.i64.wrap (a+b)=a+b/\IntKind.i64.wrap (a - b)=a - b:=by
 rw[IntKind.wrap_i64,IntKind.wrap_i64]
 omega
theorem wrM(a b:Int)(ha:-1000000000<=a/\a<=1000000000)(hb:-1000000000<=b/\b<=1000000000):IntKind.i64.wrap (a * b)=a * b:=by
 have h1:-1000000000000000000<=a * b/\a * b<=1000000000000000000:=by
  have h2:(a * b).natAbs<=1000000000 * 1000000000:=by
   rw[Int.natAbs_mul]
   exact Nat.mul_le_mul (by omega) (by omega)
  omega
 rw[IntKind.wrap_i64]
 omega
theorem zva{a b:Int}(ha:-1000000000<=a/\a<=1000000000):-1000000000<=a.tdiv b/\a.tdiv b<=1000000000:=by
 have h:(a.tdiv b).natAbs<=a.natAbs:=by
  rw[Int.natAbs_tdiv]
  exact Nat.div_le_self _ _
 omega
theorem zu9{a b:Int}(ha:-1000000000<=a/\a<=1000000000):-1000000000<=a.tmod b/\a.tmod b<=1000000000:=by
 have h:(a.tmod b).natAbs<=a.natAbs:=by
  rw[Int.natAbs_tmod]
  exact Nat.mod_le _ _
 omega
theorem wrD(a b:Int)(ha:-1000000000<=a/\a<=1000000000):IntKind.i64.wrap (a.tdiv b)=a.tdiv b/\IntKind.i64.wrap (a.tmod b)=a.tmod b:=by
 have h1:=zva (b:=b) ha
 have h2:=zu9 (b:=b) ha
 rw[IntKind.wrap_i64,IntKind.wrap_i64]
 omega
theorem zpp(w:World)(a b:Int)(ha:-1000000000<=a/\a<=1000000000)(hb:-1000000000<=b/\b<=1000000000):Calls Tryz.prog 109 #[sg [43],.int .i64 a,.int .i64 b] w fun e w'=>e=.returned (purV (inR (a+b)))/\Kp [] w w':=by
 have Hk:Hid (Kp [] w (w.alloc (.cells #[.bool false,.int .i64 0] 67))):=kA
 have Hbx:Hid ((w.alloc (.cells #[.bool false,.int .i64 0] 67)).heap[w.heap.size]? = some (.cells #[.bool false,.int .i64 0] 67)):=zab w _
 obtain⟨hw,_⟩:=wrA a b ha hb
 obtain⟨p,x,f,hp⟩:=zcx (inR (a+b))
 have Hc:Hid (Calls Tryz.prog 105 #[.int .i64 (a+b)] (w.alloc (.cells #[.bool false,.int .i64 0] 67)) fun e w'=>e=.returned (.tuple #[.agg #[.bool p,.int .i64 x],.int .i64 f])/\Kp [] (w.alloc (.cells #[.bool false,.int .i64 0] 67)) w'):=by
  have h:=zca (w.alloc (.cells #[.bool false,.int .i64 0] 67)) (a+b)
  rw[hp] at h
  exact h
 rw[hp]
 clear hp ha hb
 unfold sg
 go_enter Tryz.func109,Tryz.ntmps109
 go_wp2_with fail
 refine cM Hc.o ?_
 rintro e w2 ⟨rfl,hk2⟩
 have hb2:=zad Hbx.o hk2
 obtain⟨c0,c1,z0,z1,cl⟩:=zaa hb2
 obtain⟨d0,d1,_⟩:=zaa (zae hb2 (.bool p) (.int .i64 x))
 have Q:Hid (Kp [] w ((w2.setCell ⟨w.heap.size,0,none⟩ (.bool p)).setCell ⟨w.heap.size,1,none⟩ (.int .i64 x))):=(Hk.o.trans hk2).box2 (Nat.le_refl _) _ _
 clear hk2 hb2
 go_wp2_with fail
 exact bR (by simp[results,Tryz.results109,go_sem,d0,d1]) ⟨rfl,Q.o⟩
theorem zpo(w:World)(a b:Int)(ha:-1000000000<=a/\a<=1000000000)(hb:-1000000000<=b/\b<=1000000000):Calls Tryz.prog 109 #[sg [45],.int .i64 a,.int .i64 b] w fun e w'=>e=.returned (purV (inR (a - b)))/\Kp [] w w':=by
 have Hk:Hid (Kp [] w (w.alloc (.cells #[.bool false,.int .i64 0] 67))):=kA
 have Hbx:Hid ((w.alloc (.cells #[.bool false,.int .i64 0] 67)).heap[w.heap.size]? = some (.cells #[.bool false,.int .i64 0] 67)):=zab w _
 obtain⟨_,hw⟩:=wrA a b ha hb
 obtain⟨p,x,f,hp⟩:=zcx (inR (a - b))
 have Hc:Hid (Calls Tryz.prog 105 #[.int .i64 (a - b)] (w.alloc (.cells #[.bool false,.int .i64 0] 67)) fun e w'=>e=.returned (.tuple #[.agg #[.bool p,.int .i64 x],.int .i64 f])/\Kp [] (w.alloc (.cells #[.bool false,.int .i64 0] 67)) w'):=by
  have h:=zca (w.alloc (.cells #[.bool false,.int .i64 0] 67)) (a - b)
  rw[hp] at h
  exact h
 rw[hp]
 clear hp ha hb
 unfold sg
 go_enter Tryz.func109,Tryz.ntmps109
 go_wp2_with fail
 refine cM Hc.o ?_
 rintro e w2 ⟨rfl,hk2⟩
 have hb2:=zad Hbx.o hk2
 obtain⟨c0,c1,z0,z1,cl⟩:=zaa hb2
 obtain⟨d0,d1,_⟩:=zaa (zae hb2 (.bool p) (.int .i64 x))
 have Q:Hid (Kp [] w ((w2.setCell ⟨w.heap.size,0,none⟩ (.bool p)).setCell ⟨w.heap.size,1,none⟩ (.int .i64 x))):=(Hk.o.trans hk2).box2 (Nat.le_refl _) _ _
 clear hk2 hb2
 go_wp2_with fail
 exact bR (by simp[results,Tryz.results109,go_sem,d0,d1]) ⟨rfl,Q.o⟩
theorem zpn(w:World)(a b:Int)(ha:-1000000000<=a/\a<=1000000000)(hb:-1000000000<=b/\b<=1000000000):Calls Tryz.prog 109 #[sg [42],.int .i64 a,.int .i64 b] w fun e w'=>e=.returned (purV (inR (a * b)))/\Kp [] w w':=by
 have Hk:Hid (Kp [] w (w.alloc (.cells #[.bool false,.int .i64 0] 67))):=kA
 have Hbx:Hid ((w.alloc (.cells #[.bool false,.int .i64 0] 67)).heap[w.heap.size]? = some (.cells #[.bool false,.int .i64 0] 67)):=zab w _
 have hw:=wrM a b ha hb
 obtain⟨p,x,f,hp⟩:=zcx (inR (a * b))
 have Hc:Hid (Calls Tryz.prog 105 #[.int .i64 (a * b)] (w.alloc (.cells #[.bool false,.int .i64 0] 67)) fun e w'=>e=.returned (.tuple #[.agg #[.bool p,.int .i64 x],.int .i64 f])/\Kp [] (w.alloc (.cells #[.bool false,.int .i64 0] 67)) w'):=by
  have h:=zca (w.alloc (.cells #[.bool false,.int .i64 0] 67)) (a * b)
  rw[hp] at h
  exact h
 rw[hp]
 clear hp ha hb
 unfold sg
 go_enter Tryz.func109,Tryz.ntmps109
 go_wp2_with fail
 refine cM Hc.o ?_
 rintro e w2 ⟨rfl,hk2⟩
 have hb2:=zad Hbx.o hk2
 obtain⟨c0,c1,z0,z1,cl⟩:=zaa hb2
 obtain⟨d0,d1,_⟩:=zaa (zae hb2 (.bool p) (.int .i64 x))
 have Q:Hid (Kp [] w ((w2.setCell ⟨w.heap.size,0,none⟩ (.bool p)).setCell ⟨w.heap.size,1,none⟩ (.int .i64 x))):=(Hk.o.trans hk2).box2 (Nat.le_refl _) _ _
 clear hk2 hb2
 go_wp2_with fail
 exact bR (by simp[results,Tryz.results109,go_sem,d0,d1]) ⟨rfl,Q.o⟩
theorem zpm(w:World)(a b:Int)(ha:-1000000000<=a/\a<=1000000000)(hb0:b≠0):Calls Tryz.prog 109 #[sg [47],.int .i64 a,.int .i64 b] w fun e w'=>e=.returned (purV (inR (a.tdiv b)))/\Kp [] w w':=by
 have Hk:Hid (Kp [] w (w.alloc (.cells #[.bool false,.int .i64 0] 67))):=kA
 have Hbx:Hid ((w.alloc (.cells #[.bool false,.int .i64 0] 67)).heap[w.heap.size]? = some (.cells #[.bool false,.int .i64 0] 67)):=zab w _
 obtain⟨hw,_⟩:=wrD a b ha
 obtain⟨p,x,f,hp⟩:=zcx (inR (a.tdiv b))
 have Hc:Hid (Calls Tryz.prog 105 #[.int .i64 (a.tdiv b)] (w.alloc (.cells #[.bool false,.int .i64 0] 67)) fun e w'=>e=.returned (.tuple #[.agg #[.bool p,.int .i64 x],.int .i64 f])/\Kp [] (w.alloc (.cells #[.bool false,.int .i64 0] 67)) w'):=by
  have h:=zca (w.alloc (.cells #[.bool false,.int .i64 0] 67)) (a.tdiv b)
  rw[hp] at h
  exact h
 rw[hp]
 have hbz:(b == 0)=false:=by simpa using hb0
 clear hp ha
 generalize hq:a.tdiv b=q at *
 unfold sg
 go_enter Tryz.func109,Tryz.ntmps109
 go_wp2_with fail
 refine cM Hc.o ?_
 rintro e w2 ⟨rfl,hk2⟩
 have hb2:=zad Hbx.o hk2
 obtain⟨c0,c1,z0,z1,cl⟩:=zaa hb2
 obtain⟨d0,d1,_⟩:=zaa (zae hb2 (.bool p) (.int .i64 x))
 have Q:Hid (Kp [] w ((w2.setCell ⟨w.heap.size,0,none⟩ (.bool p)).setCell ⟨w.heap.size,1,none⟩ (.int .i64 x))):=(Hk.o.trans hk2).box2 (Nat.le_refl _) _ _
 clear hk2 hb2
 go_wp2_with fail
 exact bR (by simp[results,Tryz.results109,go_sem,d0,d1]) ⟨rfl,Q.o⟩
theorem zpl(w:World)(a b:Int)(ha:-1000000000<=a/\a<=1000000000)(hb0:b≠0):Calls Tryz.prog 109 #[sg [37],.int .i64 a,.int .i64 b] w fun e w'=>e=.returned (purV (inR (a.tmod b)))/\Kp [] w w':=by
 have Hk:Hid (Kp [] w (w.alloc (.cells #[.bool false,.int .i64 0] 67))):=kA
 have Hbx:Hid ((w.alloc (.cells #[.bool false,.int .i64 0] 67)).heap[w.heap.size]? = some (.cells #[.bool false,.int .i64 0] 67)):=zab w _
 obtain⟨_,hw⟩:=wrD a b ha
 obtain⟨p,x,f,hp⟩:=zcx (inR (a.tmod b))
 have Hc:Hid (Calls Tryz.prog 105 #[.int .i64 (a.tmod b)] (w.alloc (.cells #[.bool false,.int .i64 0] 67)) fun e w'=>e=.returned (.tuple #[.agg #[.bool p,.int .i64 x],.int .i64 f])/\Kp [] (w.alloc (.cells #[.bool false,.int .i64 0] 67)) w'):=by
  have h:=zca (w.alloc (.cells #[.bool false,.int .i64 0] 67)) (a.tmod b)
  rw[hp] at h
  exact h
 rw[hp]
 have hbz:(b == 0)=false:=by simpa using hb0
 clear hp ha
 generalize hq:a.tmod b=q at *
 unfold sg
 go_enter Tryz.func109,Tryz.ntmps109
 go_wp2_with fail
 refine cM Hc.o ?_
 rintro e w2 ⟨rfl,hk2⟩
 have hb2:=zad Hbx.o hk2
 obtain⟨c0,c1,z0,z1,cl⟩:=zaa hb2
 obtain⟨d0,d1,_⟩:=zaa (zae hb2 (.bool p) (.int .i64 x))
 have Q:Hid (Kp [] w ((w2.setCell ⟨w.heap.size,0,none⟩ (.bool p)).setCell ⟨w.heap.size,1,none⟩ (.int .i64 x))):=(Hk.o.trans hk2).box2 (Nat.le_refl _) _ _
 clear hk2 hb2
 go_wp2_with fail
 exact bR (by simp[results,Tryz.results109,go_sem,d0,d1]) ⟨rfl,Q.o⟩
theorem zpk(w:World)(a b:Int):Calls Tryz.prog 109 #[sg [60],.int .i64 a,.int .i64 b] w fun e w'=>e=.returned (purV (Act1.give (truth (decide (a < b)))))/\Kp [] w w':=by
 have Hk:Hid (Kp [] w (w.alloc (.cells #[.bool false,.int .i64 0] 67))):=kA
 have Hbx:Hid ((w.alloc (.cells #[.bool false,.int .i64 0] 67)).heap[w.heap.size]? = some (.cells #[.bool false,.int .i64 0] 67)):=zab w _
 have Hc:Hid (Calls Tryz.prog 89 #[.bool (decide (a < b))] (w.alloc (.cells #[.bool false,.int .i64 0] 67)) fun e w'=>e=.returned (.agg #[.bool false,.int .i64 (if decide (a < b) then 1 else 0)])/\Kp [] (w.alloc (.cells #[.bool false,.int .i64 0] 67)) w'):=zb2 _ _
 show Calls Tryz.prog 109 _ w fun e w'=>e=.returned (.tuple #[.agg #[.bool false,.int .i64 (if decide (a < b) then 1 else 0)],.int .i64 0])/\Kp [] w w'
 generalize (if decide (a < b)=true then(1:Int) else 0)=x at *
 unfold sg
 go_enter Tryz.func109,Tryz.ntmps109
 go_wp2_with fail
 refine cM Hc.o ?_
 rintro e w2 ⟨rfl,hk2⟩
 have hb2:=zad Hbx.o hk2
 obtain⟨c0,c1,z0,z1,cl⟩:=zaa hb2
 obtain⟨d0,d1,_⟩:=zaa (zae hb2 (.bool false) (.int .i64 x))
 have Q:Hid (Kp [] w ((w2.setCell ⟨w.heap.size,0,none⟩ (.bool false)).setCell ⟨w.heap.size,1,none⟩ (.int .i64 x))):=(Hk.o.trans hk2).box2 (Nat.le_refl _) _ _
 clear hk2 hb2
 go_wp2_with fail
 exact bR (by simp[results,Tryz.results109,go_sem,d0,d1]) ⟨rfl,Q.o⟩
theorem zpj(w:World)(a b:Int):Calls Tryz.prog 109 #[sg [60,61],.int .i64 a,.int .i64 b] w fun e w'=>e=.returned (purV (Act1.give (truth (decide (a<=b)))))/\Kp [] w w':=by
 have Hk:Hid (Kp [] w (w.alloc (.cells #[.bool false,.int .i64 0] 67))):=kA
 have Hbx:Hid ((w.alloc (.cells #[.bool false,.int .i64 0] 67)).heap[w.heap.size]? = some (.cells #[.bool false,.int .i64 0] 67)):=zab w _
 have Hc:Hid (Calls Tryz.prog 89 #[.bool (decide (a<=b))] (w.alloc (.cells #[.bool false,.int .i64 0] 67)) fun e w'=>e=.returned (.agg #[.bool false,.int .i64 (if decide (a<=b) then 1 else 0)])/\Kp [] (w.alloc (.cells #[.bool false,.int .i64 0] 67)) w'):=zb2 _ _
 show Calls Tryz.prog 109 _ w fun e w'=>e=.returned (.tuple #[.agg #[.bool false,.int .i64 (if decide (a<=b) then 1 else 0)],.int .i64 0])/\Kp [] w w'
 generalize (if decide (a<=b)=true then(1:Int) else 0)=x at *
 unfold sg
 go_enter Tryz.func109,Tryz.ntmps109
 go_wp2_with fail
 refine cM Hc.o ?_
 rintro e w2 ⟨rfl,hk2⟩
 have hb2:=zad Hbx.o hk2
 obtain⟨c0,c1,z0,z1,cl⟩:=zaa hb2
 obtain⟨d0,d1,_⟩:=zaa (zae hb2 (.bool false) (.int .i64 x))
 have Q:Hid (Kp [] w ((w2.setCell ⟨w.heap.size,0,none⟩ (.bool false)).setCell ⟨w.heap.size,1,none⟩ (.int .i64 x))):=(Hk.o.trans hk2).box2 (Nat.le_refl _) _ _
 clear hk2 hb2
 go_wp2_with fail
 exact bR (by simp[results,Tryz.results109,go_sem,d0,d1]) ⟨rfl,Q.o⟩
theorem zpi(w:World)(a b:Int):Calls Tryz.prog 109 #[sg [62],.int .i64 a,.int .i64 b] w fun e w'=>e=.returned (purV (Act1.give (truth (decide (b < a)))))/\Kp [] w w':=by
 have Hk:Hid (Kp [] w (w.alloc (.cells #[.bool false,.int .i64 0] 67))):=kA
 have Hbx:Hid ((w.alloc (.cells #[.bool false,.int .i64 0] 67)).heap[w.heap.size]? = some (.cells #[.bool false,.int .i64 0] 67)):=zab w _
 have Hc:Hid (Calls Tryz.prog 89 #[.bool (decide (b < a))] (w.alloc (.cells #[.bool false,.int .i64 0] 67)) fun e w'=>e=.returned (.agg #[.bool false,.int .i64 (if decide (b < a) then 1 else 0)])/\Kp [] (w.alloc (.cells #[.bool false,.int .i64 0] 67)) w'):=zb2 _ _
 show Calls Tryz.prog 109 _ w fun e w'=>e=.returned (.tuple #[.agg #[.bool false,.int .i64 (if decide (b < a) then 1 else 0)],.int .i64 0])/\Kp [] w w'
 generalize (if decide (b < a)=true then(1:Int) else 0)=x at *
 unfold sg
 go_enter Tryz.func109,Tryz.ntmps109
 go_wp2_with fail
 refine cM Hc.o ?_
 rintro e w2 ⟨rfl,hk2⟩
 have hb2:=zad Hbx.o hk2
 obtain⟨c0,c1,z0,z1,cl⟩:=zaa hb2
 obtain⟨d0,d1,_⟩:=zaa (zae hb2 (.bool false) (.int .i64 x))
 have Q:Hid (Kp [] w ((w2.setCell ⟨w.heap.size,0,none⟩ (.bool false)).setCell ⟨w.heap.size,1,none⟩ (.int .i64 x))):=(Hk.o.trans hk2).box2 (Nat.le_refl _) _ _
 clear hk2 hb2
 go_wp2_with fail
 exact bR (by simp[results,Tryz.results109,go_sem,d0,d1]) ⟨rfl,Q.o⟩
theorem zph(w:World)(a b:Int):Calls Tryz.prog 109 #[sg [62,61],.int .i64 a,.int .i64 b] w fun e w'=>e=.returned (purV (Act1.give (truth (decide (b<=a)))))/\Kp [] w w':=by
 have Hk:Hid (Kp [] w (w.alloc (.cells #[.bool false,.int .i64 0] 67))):=kA
 have Hbx:Hid ((w.alloc (.cells #[.bool false,.int .i64 0] 67)).heap[w.heap.size]? = some (.cells #[.bool false,.int .i64 0] 67)):=zab w _
 have Hc:Hid (Calls Tryz.prog 89 #[.bool (decide (b<=a))] (w.alloc (.cells #[.bool false,.int .i64 0] 67)) fun e w'=>e=.returned (.agg #[.bool false,.int .i64 (if decide (b<=a) then 1 else 0)])/\Kp [] (w.alloc (.cells #[.bool false,.int .i64 0] 67)) w'):=zb2 _ _
 show Calls Tryz.prog 109 _ w fun e w'=>e=.returned (.tuple #[.agg #[.bool false,.int .i64 (if decide (b<=a) then 1 else 0)],.int .i64 0])/\Kp [] w w'
 generalize (if decide (b<=a)=true then(1:Int) else 0)=x at *
 unfold sg
 go_enter Tryz.func109,Tryz.ntmps109
 go_wp2_with fail
 refine cM Hc.o ?_
 rintro e w2 ⟨rfl,hk2⟩
 have hb2:=zad Hbx.o hk2
 obtain⟨c0,c1,z0,z1,cl⟩:=zaa hb2
 obtain⟨d0,d1,_⟩:=zaa (zae hb2 (.bool false) (.int .i64 x))
 have Q:Hid (Kp [] w ((w2.setCell ⟨w.heap.size,0,none⟩ (.bool false)).setCell ⟨w.heap.size,1,none⟩ (.int .i64 x))):=(Hk.o.trans hk2).box2 (Nat.le_refl _) _ _
 clear hk2 hb2
 go_wp2_with fail
 exact bR (by simp[results,Tryz.results109,go_sem,d0,d1]) ⟨rfl,Q.o⟩
theorem znl(w:World)(a:Int):Calls Tryz.prog 109 #[sg [47],.int .i64 a,.int .i64 0] w fun e w'=>e=.returned (purV (.raise (-4)))/\Kp [] w w':=by
 have Hk:Hid (Kp [] w (w.alloc (.cells #[.bool false,.int .i64 0] 67))):=kA
 unfold sg
 go_enter Tryz.func109,Tryz.ntmps109
 go_wp2_with fail
 exact bodyPost_ret (by simp[results,Tryz.results109,go_sem];rfl) rfl ⟨rfl,Hk.o⟩
theorem znk(w:World)(a:Int):Calls Tryz.prog 109 #[sg [37],.int .i64 a,.int .i64 0] w fun e w'=>e=.returned (purV (.raise (-4)))/\Kp [] w w':=by
 have Hk:Hid (Kp [] w (w.alloc (.cells #[.bool false,.int .i64 0] 67))):=kA
 unfold sg
 go_enter Tryz.func109,Tryz.ntmps109
 go_wp2_with fail
 exact bodyPost_ret (by simp[results,Tryz.results109,go_sem];rfl) rfl ⟨rfl,Hk.o⟩
def signT:List (List UInt8):=[[43],[45],[42],[47],[37],[60],[60,61],[62],[62,61],[61],[60,62],[94],[33],[58,61],[126]]
theorem zsq(w:World)(k:Nat)(hk:k < 9)(a b:Int)(ha:-1000000000<=a/\a<=1000000000)(hb:-1000000000<=b/\b<=1000000000):Calls Tryz.prog 109 #[sg ((signT[k]?).getD []),.int .i64 a,.int .i64 b] w fun e w'=>e=.returned (purV (reck k a b))/\Kp [] w w':=by
 have h:k=0\/k=1\/k=2\/k=3\/k=4\/k=5\/k=6\/k=7\/k=8:=by omega
 rcases h with rfl | rfl | rfl | rfl | rfl | rfl | rfl | rfl | rfl
 ·exact zpp w a b ha hb
 ·exact zpo w a b ha hb
 ·exact zpn w a b ha hb
 ·by_cases h0:b=0
  ·subst h0
   exact znl w a
  ·unfold reck
   simp only[show ¬ ((3:Nat)=0) by decide,show ¬ ((3:Nat)=1) by decide,show ¬ ((3:Nat)=2) by decide,show ¬ ((3:Nat)=5) by decide,show ¬ ((3:Nat)=6) by decide,show ¬ ((3:Nat)=7) by decide,show ¬ ((3:Nat)=8) by decide,if_false,if_neg h0,if_true]
   exact zpm w a b ha h0
 ·by_cases h0:b=0
  ·subst h0
   exact znk w a
  ·unfold reck
   simp only[show ¬ ((4:Nat)=0) by decide,show ¬ ((4:Nat)=1) by decide,show ¬ ((4:Nat)=2) by decide,show ¬ ((4:Nat)=5) by decide,show ¬ ((4:Nat)=6) by decide,show ¬ ((4:Nat)=7) by decide,show ¬ ((4:Nat)=8) by decide,show ¬ ((4:Nat)=3) by decide,if_false,if_neg h0]
   exact zpl w a b ha h0
 ·exact zpk w a b
 ·exact zpj w a b
 ·exact zpi w a b
 ·exact zph w a b
end Go.Proofs.YtkcmachfagcnaaaGreatDoor
