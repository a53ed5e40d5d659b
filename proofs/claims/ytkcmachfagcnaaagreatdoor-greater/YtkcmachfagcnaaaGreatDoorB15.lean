/- Part of Greater. -/
import Derived.Lib.SlBuf
import Derived.Test.YtkcmachfagcnaaaGreatDoorB14
set_option maxHeartbeats 8000000
set_option maxRecDepth 100000
namespace Go.Proofs.YtkcmachfagcnaaaGreatDoor
open Go.RowKit Go.Deep Go.IntWalk
theorem zhk{w:World}{g cap:Nat}{L Z xs:List Wd}(ho:OwnW w (.slice (some ⟨g,0,none⟩) (L++Z).length cap) (L++Z))(hx:xs.length=Z.length){a:Addr}{dcap scap:Nat}(hsrc:∀ j u,(wdV xs)[j]? = some u->w.cell? (a.add j)=some u)(ty:TypeId) :
  ∃ w',(Builtin.copy_ #[89,89] ty #[.slice (some ⟨g,L.length * 5,none⟩) Z.length dcap,.slice (some a) Z.length scap]).run Tryz.prog w=.ok (goInt Z.length) w'/\OwnW w' (.slice (some ⟨g,0,none⟩) (L++Z).length cap) (L++xs)/\w.grownBy w' (some g):=by
 obtain⟨i0,hi0,hz0,hz1,hz2⟩:=zap zlj
 rcases ho.2 with⟨e,_⟩ | ⟨g',cap',cur,e,hbg,hg,hnc,hcm,hcs,htake⟩
 ·cases e
 ·cases e
  have hl:=run_firstCells_some (P:=Tryz.prog) w 5 Z.length a Z.length scap (wdV xs) (by rw[za7,hx]) hsrc
  have hlen:(L++Z).length=L.length+Z.length:=by simp
  have hst:=run_storeCells_at Tryz.prog g (L.length * 5) 186 (wdV xs) 0 cur w hg (by rw[za7,hcs,hx];omega) (zov _)
  simp only[Nat.add_zero] at hst
  refine⟨w.setRow g (cur.toList.take (L.length * 5)++wdV xs++cur.toList.drop (L.length * 5+(wdV xs).length)).toArray,?_,⟨by rw[za7],.inr ⟨g,cap,_,by simp[hx],hbg,setRow_heap w g cur _ 186 _ hg,by rw[lA,hx,<-hlen];exact hnc,hcm,?_,?_⟩⟩,⟨rfl,rfl,rfl,by simp,fun j _ hj=>setRow_other w g j _ (fun e=>hj (by rw[e]))⟩⟩
  ·simp[Builtin.copy_,run_underlying zgi,Builtin.lenOf,sizeOf,typeInfo,hi0,hz1,hl,hst]
  ·simp only[List.size_toArray,lA,List.length_take,List.length_drop,Array.length_toList,za7]
   omega
  ·have h1:cur.toList.take (L.length * 5)=wdV L:=by
    have:=congrArg (List.take (L.length * 5)) htake
    rw[List.take_take,hlen,Nat.min_eq_left (by omega),zcl,List.take_append_of_le_length (by rw[za7];exact Nat.le_refl _)] at this
    rw[this,List.take_of_length_le (by rw[za7];exact Nat.le_refl _)]
   rw[h1,lA,zcl]
   have e:(L.length+xs.length) * 5=(wdV L++wdV xs).length:=by simp[za7];omega
   rw[e]
   exact List.take_left
structure MvM(w:World)(mb:Nat)(cells first tfirst:Int)(fv tv:Value)(fws tws:List Wd):Prop where
 box:w.heap[mb]? = some (.cells #[.int .i64 cells,.int .i64 first,fv,.int .i64 cells,.int .i64 tfirst,tv] 236)
 fown:OwnW w fv fws
 town:OwnW w tv tws
 apart:∀ k,fv.ownBlock=some k->tv.ownBlock≠some k
 flen:fws.length<=1000000
 tlen:tws.length<=1000000
 pos:0 < first/\first<=9000000000000000000
 tpos:0 < tfirst/\tfirst<=9000000000000000000
theorem MvM.kp{X:List Nat}{w w':World}{mb:Nat}{cells first tfirst:Int}{fv tv:Value}{fws tws:List Wd}(h:MvM w mb cells first tfirst fv tv fws tws)(hk:Kp X w w')(h1:mb∉X)(h2:∀ k,fv.ownBlock=some k->k∉X)(h3:∀ k,tv.ownBlock=some k->k∉X):MvM w' mb cells first tfirst fv tv fws tws:=
 ⟨(hk.block mb (sz h.box) h1).trans h.box,h.fown.kp hk h2,h.town.kp hk h3,h.apart,h.flen,h.tlen,h.pos,h.tpos⟩
inductive MvPost(w:World)(mb:Nat)(cells first tfirst:Int)(fv tv:Value)(fws tws:List Wd)(j:Nat)(x:Wd):Ending->World->Prop
 | old (h:x.moved≠0) (w':World) (hw:Below w.heap.size w w'):MvPost w mb cells first tfirst fv tv fws tws j x (.returned (.int .i64 (tfirst+x.moved - 1))) w'
 | new (h:x.moved=0) (tv':Value) (w':World) (hm:MvM w' mb cells first tfirst fv tv' (fws.set j {x with moved:=tws.length+1}) (tws++(fws.drop j).take (x.n.toNat+1)))
   (hk:Kp ([mb]++fv.ownBlock.toList++tv.ownBlock.toList) w w') (hf:tv'.ownBlock=tv.ownBlock\/∃ g,tv'.ownBlock=some g/\w.heap.size<=g):MvPost w mb cells first tfirst fv tv fws tws j x (.returned (.int .i64 (tfirst+tws.length))) w'
theorem MvM.hp{w:World}{mb:Nat}{cells first tfirst:Int}{fv tv:Value}{fws tws:List Wd}(h:MvM w mb cells first tfirst fv tv fws tws):∃ p cap,fv=.slice p fws.length cap/\HpAt w mb 0 cells first p cap fws/\(∀ a,p=some a->a=⟨a.block,0,none⟩/\fv.ownBlock=some a.block):=by
 obtain⟨p,cap,rfl,hc,hr,_,ha⟩:=h.fown.at h.flen
 have hb':=h.box
 exact⟨p,cap,rfl,⟨by simp only[World.cell?,hb'];rfl,by simp only[World.cell?,hb'];rfl,by simp only[World.cell?,hb'];rfl,hr,h.pos,hc⟩,ha⟩
theorem Hd.words{ws:List Wd}{j:Nat}{x:Wd}(hx:Hd ws j x):((ws.drop j).take (x.n.toNat+1)).length=x.n.toNat+1:=by
 rw[List.length_take,List.length_drop]
 have:=hx.fits
 omega
theorem eql41(a:Addr)(n c:Nat)(w:World):(binOp .eql 89 (.slice (some a) n c) (.slice none 0 0)).run Tryz.prog w=.ok (.bool false) w:=by kernel_rfl
theorem znv(w:World)(mb:Nat)(cells first tfirst:Int)(fv tv:Value)(fws tws:List Wd)(h:MvM w mb cells first tfirst fv tv fws tws)(j:Nat)(x:Wd)(hx:Hd fws j x)(hm:x.moved≠0)(hml:0<=x.moved/\x.moved<=1000001) :
  Calls Tryz.prog 144 #[.pointer (some ⟨mb,0,none⟩),.int .i64 (first+j)] w fun e w'=>MvPost w mb cells first tfirst fv tv fws tws j x e w':=by
 obtain⟨p,cap,rfl,hA,ha⟩:=h.hp
 obtain⟨b,hp,hwd,hbl⟩:=hA.row.at_ hx.get
 subst hp
 have Hcall:Hid _:=zez w mb 0 cells first _ cap fws hA j x hx
 have hbox:=h.box
 have htp:=h.tpos
 have Hall:Hid (∀ wx,Below w.heap.size w wx->(wx.cell? ⟨b,j * 5+1,none⟩=some (.int .i32 x.moved)/\b < wx.heap.size)/\wx.cell? ⟨mb,4,none⟩=some (.int .i64 tfirst)/\mb < wx.heap.size):=fun wx hk=>by
  obtain⟨g0,g1,g2,g3,g4⟩:=hwd
  simp only[Nat.zero_add] at g1
  have hmb:=(sz hbox)
  have hb2:=(hk.block mb hmb).trans hbox
  exact⟨⟨(hk.cell (p:=⟨b,j * 5+1,none⟩) hbl).trans g1,lL hbl hk.size⟩,by simp only[World.cell?,hb2];rfl,lL hmb hk.size⟩
 have hq:Hid (∀ w',Below w.heap.size w w'->MvPost w mb cells first tfirst (.slice (some ⟨b,0,none⟩) fws.length cap) tv fws tws j x (.returned (.int .i64 (tfirst+x.moved - 1))) w'):=fun w' hw=>MvPost.old hm w' hw
 obtain⟨xn,xm,xt,xk,xp⟩:=x
 simp only at hm hml hq Hall ⊢
 have hw1:IntKind.i64.wrap xm=xm:=by rw[IntKind.wrap_i64];omega
 have hw2:wrap64 (tfirst+xm)=tfirst+xm:=wrap64_in _ (by omega)
 have hw3:wrap64 (tfirst+xm - 1)=tfirst+xm - 1:=wrap64_in _ (by omega)
 have hnil:=eql41
 have hm0:(xm == 0)=false:=by simpa using hm
 clear h hA ha hwd hx hbox
 go_enter Tryz.func144,Tryz.ntmps144
 go_wp2_with fail
 refine cM Hcall.o ?_
 rintro e w2 ⟨⟨b',hp,rfl⟩,hb2⟩
 cases hp
 obtain⟨⟨f0,f1⟩,f2,f3⟩:=Hall.o w2 hb2
 have Q:Hid (∀ n,Below w.heap.size w (w2.drewN n)):=fun n=>hb2.trans (((Kp.refl [] w2).drewN n).below hb2.size (by simp))
 clear hb2
 go_wp2_with fail
 go_quiet (fail)
 go_wp2
 exact bR (by simp[results,Tryz.results144,go_sem]) (hq.out _ (Q.o _))
theorem set6m{w:World}{b:Nat}{a0 a1 a2 a3 a4 a5:Value}{ty:TypeId}(h:w.heap[b]? = some (.cells #[a0,a1,a2,a3,a4,a5] ty))(v5:Value):(w.setCell ⟨b,5,none⟩ v5).heap[b]? = some (.cells #[a0,a1,a2,a3,a4,v5] ty):=by
 simp[World.setCell,Array.getElem?_modify,h]
theorem wr32(n:Nat)(h:n<=1000000):wrap32 (n:Int)=n:=wrap32_in _ (by omega)
theorem wr32s(n:Nat)(h:n<=1000000):wrap32 ((n:Int)+1)=(n:Int)+1:=wrap32_in _ (by omega)
theorem wr64s(n:Nat)(h:n<=1000000):wrap64 ((n:Int)+1)=(n:Int)+1:=wrap64_in _ (by omega)
theorem wr64t(t:Int)(ht:0 < t/\t<=9000000000000000000)(n:Nat)(h:n<=1000000):wrap64 (t+((n:Int)+1))=t+((n:Int)+1):=wrap64_in _ (by omega)
theorem wr64u(t:Int)(ht:0 < t/\t<=9000000000000000000)(n:Nat)(h:n<=1000000):wrap64 (t+((n:Int)+1) - 1)=t+n:=by rw[wrap64_in _ (by omega)];omega
theorem zxy(n:Nat)(h:n<=1000000)(w:World):(convert 3 21 (.int .i64 n)).run Tryz.prog w=.ok (.int .i32 n) w:=by
 have:(convert 3 21 (.int .i64 n)).run Tryz.prog w=.ok (.int .i32 (IntKind.i32.wrap n)) w:=by kernel_rfl
 rw[this,i32_in _ (by omega)]
theorem add21(n:Nat)(h:n<=1000000)(w:World):(binOp .add 21 (.int .i32 n) (.int .i32 1)).run Tryz.prog w=.ok (.int .i32 ((n:Int)+1)) w:=by
 have:(binOp .add 21 (.int .i32 n) (.int .i32 1)).run Tryz.prog w=.ok (.int .i32 (IntKind.i32.wrap ((n:Int)+1))) w:=by kernel_rfl
 rw[this,i32_in _ (by omega)]
theorem znw(w:World)(mb:Nat)(cells first tfirst:Int)(fv tv:Value)(fws tws:List Wd)(h:MvM w mb cells first tfirst fv tv fws tws)(j:Nat)(x:Wd)(hx:Hd fws j x)(hm:x.moved=0)(hl:tws.length+x.n.toNat+1<=1000000) :
  Calls Tryz.prog 144 #[.pointer (some ⟨mb,0,none⟩),.int .i64 (first+j)] w fun e w'=>MvPost w mb cells first tfirst fv tv fws tws j x e w':=by
 obtain⟨p,cap,rfl,hA,ha⟩:=h.hp
 obtain⟨b,hp,hwd,hbl⟩:=hA.row.at_ hx.get
 subst hp
 have hob:Value.ownBlock (.slice (some ⟨b,0,none⟩) fws.length cap)=some b:=rfl
 have Hcall:Hid _:=zez w mb 0 cells first _ cap fws hA j x hx
 have H:=zh h
 have Hx:=zh hx
 obtain⟨q,qc,rfl,hqc,_,_,hqa⟩:=h.town.at h.tlen
 have Hall:Hid (∀ wx,Below w.heap.size w wx->(wx.cell? ⟨b,j * 5+1,none⟩=some (.int .i32 0)/\b < wx.heap.size)/\wx.cell? ⟨mb,5,none⟩=some (.slice q tws.length qc)/\mb < wx.heap.size):=fun wx hk=>by
  obtain⟨g0,g1,g2,g3,g4⟩:=hwd
  simp only[Nat.zero_add] at g1
  have hbox:=h.box
  have hmb:=(sz hbox)
  have hb2:=(hk.block mb hmb).trans hbox
  rw[hm] at g1
  exact⟨⟨(hk.cell (p:=⟨b,j * 5+1,none⟩) hbl).trans g1,lL hbl hk.size⟩,by simp only[World.cell?,hb2];rfl,lL hmb hk.size⟩
 obtain⟨xn,xm,xt,xk,xp⟩:=x
 have hn:=hx.n
 simp only at hm hl hn Hall Hcall ⊢
 subst hm
 obtain⟨m,rfl⟩:∃ m:Nat,xn=m:=⟨xn.toNat,by omega⟩
 simp only[Int.toNat_natCast] at hl Hcall
 have hnil:=eql41
 clear h hA ha hwd hx hqa
 go_enter Tryz.func144,Tryz.ntmps144
 go_wp2_with fail
 refine cM Hcall.o ?_
 rintro e w2 ⟨⟨b',hp,rfl⟩,hb2⟩
 cases hp
 obtain⟨⟨f0,f1⟩,f2,f3⟩:=Hall.o w2 hb2
 have H2:Hid _:=H.o.kp (Kp.zB (X:=[]) hb2) (by simp) (by simp) (by simp)
 have HB:=zh hb2
 have Htake:Hid _:=zlx w2 mb 3 _ tws f2 (by simp[World.frozen?,H2.o.box]) (H2.o.town.ne H2.o.box (by decide)) H2.o.town (m+1) (by omega) H2.o.tlen (by omega)
 clear hb2
 go_wp2_with fail
 refine cM Htake.o ?_
 rintro e w4 ⟨g,gc,w3,ho3,hg3,hat,hgc⟩
 simp only[show(3:Nat)+2=5 by rfl]
 have hs2:=HB.o.size
 have hmb2:=f3
 have hbox3:=(hg3.block mb f3 (fun e=>H2.o.town.ne H2.o.box (by decide) e.symm)).trans H2.o.box
 have hbox4:=set6m hbox3 (.slice (some ⟨g,0,none⟩) (tws.length+(m+1)) gc)
 have hgm:g≠mb:=fun e=>by
  rcases hat with hat | hat
  ·exact H2.o.town.ne H2.o.box (by decide) (e ▸ hat)
  ·omega
 have hbm:b≠mb:=fun e=>H2.o.fown.ne H2.o.box (by decide) (e ▸ hob)
 have hgb:g≠b:=fun e=>by
  rcases hat with hat | hat
  ·exact H2.o.apart b hob (e ▸ hat)
  ·omega
 have hk4:Kp [mb] w3 (w3.setCell ⟨mb,5,none⟩ (.slice (some ⟨g,0,none⟩) (tws.length+(m+1)) gc)):=Kp.setCell _ _ (by simp) _
 have hown4:=ho3.kp hk4 (by intro k hk;cases hk;simpa using hgm)
 have hk3:Kp (Value.ownBlock (.slice q tws.length qc)).toList w2 w3:=Kp.of_grown hg3 (by intro k hk;rw[hk];simp)
 have hf3:=H2.o.fown.kp hk3 (by intro k hk;cases hk;intro hh;exact H2.o.apart b hob (by simpa using hh))
 have hf4:=hf3.kp hk4 (by intro k hk;cases hk;simpa using hbm)
 have hxl:((fws.drop j).take (m+1)).length=(List.replicate (m+1) zw).length:=by
  rw[List.length_replicate]
  exact Hx.o.words
 have hcpy:=zhk (xs:=(fws.drop j).take (m+1)) (L:=tws) (Z:=List.replicate (m+1) zw) (g:=g) (cap:=gc) (a:=⟨b,j * 5,none⟩) (dcap:=gc - tws.length) (scap:=cap - j) (by simpa using hown4) hxl (fun i u hu=>by
  have h1:i < (m+1) * 5:=by
   have:=(List.getElem?_eq_some_iff.1 hu).1
   rw[za7,hxl,List.length_replicate] at this
   exact this
  have hfit:=Hx.o.fits
  simp only[Int.toNat_natCast] at hfit
  have h2:(wdV fws)[j * 5+i]? = some u:=by
   have e:wdV fws=wdV (fws.take j)++(wdV ((fws.drop j).take (m+1))++wdV ((fws.drop j).drop (m+1))):=by rw[<-zcl,List.take_append_drop,<-zcl,List.take_append_drop]
   have hl0:(wdV (fws.take j)).length=j * 5:=by rw[za7,List.length_take];omega
   rw[e,List.getElem?_append_right (by omega),hl0,Nat.add_sub_cancel_left,List.getElem?_append_left (by rw[za7,hxl,List.length_replicate];exact h1)]
   exact hu
  have h3:=World.ownsRow.cells (g:=b) hf4 rfl (j * 5+i) u h2
  rw[zf7] at h3 ⊢
  simpa using h3) 3
 simp only[lA,List.length_replicate] at hcpy
 generalize hw4e:w3.setCell ⟨mb,5,none⟩ (.slice (some ⟨g,0,none⟩) (tws.length+(m+1)) gc)=w4 at *
 obtain⟨w5,hrun5,hown5,hg5⟩:=hcpy
 have hk5:Kp [g] w4 w5:=Kp.of_grown hg5 (by intro k hk;cases hk;simp)
 have hf5:=hf4.kp hk5 (by intro k hk;cases hk;simpa using fun e:b=g=>hgb e.symm)
 have hbox5:=(hk5.block mb (sz hbox4) (by simpa using fun e:mb=g=>hgm e.symm)).trans hbox4
 have hjl:=Hx.o.lt
 obtain⟨q6,c6,hv6,-,hr6,-,-⟩:=hf5.at H2.o.flen
 cases hv6
 obtain⟨b6,hp6,⟨-,k1,-,-,-⟩,k5⟩:=hr6.at_ Hx.o.get
 cases hp6
 simp only[Nat.zero_add] at k1
 have kf:w5.frozen? ⟨b,j * 5+1,none⟩=false:=zce hf5 rfl _
 have hf6:OwnW (w5.setCell ⟨b,j * 5+1,none⟩ (.int .i32 ((tws.length:Int)+1))) (.slice (some ⟨b,0,none⟩) fws.length cap) (fws.set j ⟨m,(tws.length:Int)+1,xt,xk,xp⟩):=by
  have h1:=za2 hf5 (g:=b) rfl (j * 5+1) (.int .i32 ((tws.length:Int)+1))
  have he:fws[j]'hjl=⟨m,0,xt,xk,xp⟩:=by
   have:=Hx.o.get
   rw[gE hjl] at this
   exact Option.some.inj this
  have h2:=zsb fws j hjl ((tws.length:Int)+1)
  rw[he] at h2
  unfold OwnW
  rw[<-h2,List.length_set]
  exact h1
 have hk6:Kp [b] w5 (w5.setCell ⟨b,j * 5+1,none⟩ (.int .i32 ((tws.length:Int)+1))):=Kp.setCell _ _ (by simp) _
 have ht6:=hown5.kp hk6 (by intro k hk;cases hk;simpa using hgb)
 have hbox6:=(hk6.block mb (sz hbox5) (by simpa using fun e:mb=b=>hbm e.symm)).trans hbox5
 have hc6:(w5.setCell ⟨b,j * 5+1,none⟩ (.int .i32 ((tws.length:Int)+1))).cell? ⟨b,j * 5+1,none⟩=some (.int .i32 ((tws.length:Int)+1)):=World.cell?_setCell_same' _ _ _ (by rw[k1];rfl)
 have hb6:b < (w5.setCell ⟨b,j * 5+1,none⟩ (.int .i32 ((tws.length:Int)+1))).heap.size:=by simpa [World.setCell] using k5
 have hmf:(w5.setCell ⟨b,j * 5+1,none⟩ (.int .i32 ((tws.length:Int)+1))).cell? ⟨mb,4,none⟩=some (.int .i64 tfirst):=by simp only[World.cell?,hbox6];rfl
 have hm6:=(sz hbox6)
 have hKall:Kp ([mb]++(Value.ownBlock (.slice (some ⟨b,0,none⟩) fws.length cap)).toList++(Value.ownBlock (.slice q tws.length qc)).toList) w (w5.setCell ⟨b,j * 5+1,none⟩ (.int .i32 ((tws.length:Int)+1))):=by
  refine(((((Kp.zB HB.o).then hk3 (fun y hy=>Or.inl (by simp at hy ⊢;exact Or.inr (Or.inr hy)))).then hk4 (by simp)).then hk5 ?_).then hk6 (fun y hy=>Or.inl (by simp at hy ⊢;exact Or.inr (Or.inl (by rw[hy];rfl)))))
  intro y hy
  simp at hy
  subst hy
  rcases hat with hat | hat
  ·exact Or.inl (by simp[hat])
  ·exact Or.inr (by omega)
 have hM6:MvM (w5.setCell ⟨b,j * 5+1,none⟩ (.int .i32 ((tws.length:Int)+1))) mb cells first tfirst (.slice (some ⟨b,0,none⟩) fws.length cap) (.slice (some ⟨g,0,none⟩) (tws.length+(m+1)) gc) (fws.set j ⟨m,(tws.length:Int)+1,xt,xk,xp⟩) (tws++(fws.drop j).take (m+1)):=
  ⟨hbox6,hf6,ht6,(by intro k hk;cases hk;simpa [Value.ownBlock] using hgb),by rw[List.length_set];exact H2.o.flen,by rw[lA,hxl,List.length_replicate];omega,H2.o.pos,H2.o.tpos⟩
 have hQ:Hid (∀ n,MvPost w mb cells first tfirst (.slice (some ⟨b,0,none⟩) fws.length cap) (.slice q tws.length qc) fws tws j ⟨m,0,xt,xk,xp⟩ (.returned (.int .i64 (tfirst+tws.length))) ((w5.setCell ⟨b,j * 5+1,none⟩ (.int .i32 ((tws.length:Int)+1))).drewN n)):=fun n=>
  MvPost.new rfl _ _ (hM6.kp (kr.drewN n) (by simp) (by simp) (by simp)) (hKall.drewN n) (by
   rcases hat with hat | hat
   ·exact Or.inl (by rw[hat];rfl)
   ·exact Or.inr ⟨g,rfl,by omega⟩)
 have htl:=H2.o.tlen
 have htp:=H2.o.tpos
 have v1:=wr32 tws.length htl
 have v2:=wr32s tws.length htl
 have v3:=wr64s tws.length htl
 have v4:=wr64t tfirst htp tws.length htl
 have v5:=wr64u tfirst htp tws.length htl
 clear hKall hM6 hk6 ht6 hbox6 hf6 hr6 hf5 hbox5 hk5 hown5 hg5 hf4 hf3 hk3 hown4 hk4 hbox4 hbox3 ho3 hg3 hw4e hxl f0 f2
 have Hc6:=zh hc6
 have Hmf:=zh hmf
 have Hb6:=zh hb6
 have Hm6:=zh hm6
 have Htl:=zh htl
 have Htp:=zh htp
 clear hc6 hb6 hmf hm6 v1 v2 v3 v4 v5 hat hgc hs2 hmb2 hgm hbm hgb htl htp hnil
 go_upto_region 7 with(at_builtin;refine Lib.wpList_copy_run _ rfl _ _ _ _ rfl _ _ rfl rfl hrun5 ?_)
 clear hrun5
 have v1:=zxy tws.length Htl.o
 have v2:=add21 tws.length Htl.o
 go_upto_region 8 with fail
 generalize w5.setCell _ _=w6 at *
 clear v1 v2 k1 kf k5
 have v3:=wr64s tws.length Htl.o
 have v4:=wr64t tfirst Htp.o tws.length Htl.o
 have v5:=wr64u tfirst Htp.o tws.length Htl.o
 have c0:=Hc6.o
 have c1:=Hmf.o
 have c2:=Hb6.o
 have c3:=Hm6.o
 go_quiet (fail)
 go_wp2
 exact bodyPost_ret (by simp[results,Tryz.results144,go_sem];exact v5) rfl (hQ.out _)
end Go.Proofs.YtkcmachfagcnaaaGreatDoor
namespace Go.Proofs.YtkcmachfagcnaaaGreatDoor
open Go.RowKit Go.Deep
def Th.sz(t:Th):Nat:=t.fs.length+1
def hdw(m:Int)(t:Th):Wd:=⟨t.fs.length,m,t.tag,t.kind,2⟩
def encT(m:Int)(t:Th):List Wd:=hdw m t :: t.fs.map fld
theorem zc9(m:Int)(t:Th):(encT m t).length=t.sz:=by simp[encT,Th.sz]
def encL(mk:Int->Int):Int->List Th->List Wd
 | _,[]=>[]
 | a,t :: r=>encT (mk a) t++encL mk (a+t.sz) r
def total:List Th->Nat
 | []=>0
 | t :: r=>t.sz+total r
def zO:Int->List Th->Doc
 | _,[]=>fun _=>none
 | a,t :: r=>fun x=>if x=a then some t else zO (a+t.sz) r x
def addrs:Int->List Th->List Int
 | _,[]=>[]
 | a,t :: r=>a :: addrs (a+t.sz) r
theorem zbz(a:Int)(t:Th)(r:List Th)(x:Int):zO a (t :: r) x=if x=a then some t else zO (a+t.sz) r x:=rfl
theorem zrg(a:Int)(x:Int):zO a [] x=none:=rfl
theorem zf1(t:Th):0 < t.sz:=by simp[Th.sz]
theorem zd4(l k:List Th):total (l++k)=total l+total k:=by
 induction l with
 | nil=>simp[total]
 | cons t r ih=>simp[total,ih];omega
theorem zak(mk:Int->Int):∀ (a:Int) (ts:List Th),(encL mk a ts).length=total ts
 | _,[]=>rfl
 | a,t :: r=>by rw[encL,lA,zc9,zak,total]
theorem zcs(mk:Int->Int):∀ (a:Int) (l k:List Th),encL mk a (l++k)=encL mk a l++encL mk (a+total l) k
 | a,[],k=>by simp[encL,total]
 | a,t :: r,k=>by
  rw[List.cons_append,encL,zcs,encL,total,List.append_assoc]
  congr 3
  simp[Int.add_assoc]
theorem zg4{t:Th} : ∀ (a:Int) (ts:List Th) (x:Int),zO a ts x=some t->a<=x/\x < a+total ts
 | a,[],x,h=>by cases h
 | a,u :: r,x,h=>by
  rw[zbz] at h
  have:=zf1 u
  rw[total]
  split at h
  ·subst x
   omega
  ·have:=zg4 _ _ _ h
   omega
theorem zed{t:Th} : ∀ (a:Int) (ts:List Th) (x:Int),zO a ts x=some t->∃ l r,ts=l++t :: r/\x=a+total l
 | a,[],x,h=>by cases h
 | a,u :: r,x,h=>by
  rw[zbz] at h
  split at h
  ·cases h
   exact⟨[],r,rfl,by simp[total];assumption⟩
  ·obtain⟨l,k,rfl,rfl⟩:=zed _ _ _ h
   exact⟨u :: l,k,rfl,by simp[total];omega⟩
theorem zg5:∀ (a:Int) (l k:List Th) (x:Int),zO a (l++k) x=if x < a+total l then zO a l x else zO (a+total l) k x
 | a,[],k,x=>by
  rw[List.nil_append,total,zrg,show a+((0:Nat):Int)=a by omega]
  by_cases hx:x < a
  ·rw[if_pos hx]
   cases h:zO a k x with
   | none=>rfl
   | some t=>have:=zg4 a k x h;omega
  ·rw[if_neg hx]
 | a,u :: r,k,x=>by
  have hp:=zf1 u
  rw[List.cons_append,zbz,zbz,total,zg5]
  by_cases h:x=a
  ·rw[if_pos h,if_pos h,if_pos (by omega)]
  ·rw[if_neg h,if_neg h]
   have e:a+(u.sz:Int)+(total r:Int)=a+((u.sz+total r:Nat):Int):=by omega
   rw[e]
theorem zxr(a:Int)(l:List Th)(t:Th)(r:List Th):zO a (l++t :: r) (a+total l)=some t:=by
 rw[zg5,if_neg (by omega),zbz,if_pos rfl]
theorem zmv(a:Int)(ts:List Th)(t:Th):zO a (ts++[t])=upd (zO a ts) (a+total ts) (some t):=by
 funext x
 rw[zg5]
 unfold upd
 by_cases h1:x < a+total ts
 ·rw[if_pos h1,if_neg (by omega)]
 ·rw[if_neg h1,zbz,zrg]
  by_cases h2:x=a+total ts
  ·rw[if_pos h2,if_pos h2]
  ·rw[if_neg h2,if_neg h2]
   cases h:zO a ts x with
   | none=>rfl
   | some u=>have:=zg4 a ts x h;omega
theorem zwj(a:Int)(ts:List Th)(x:Int)(h:a+total ts<=x):zO a ts x=none:=by
 cases h1:zO a ts x with
 | none=>rfl
 | some t=>have:=zg4 a ts x h1;omega
theorem zwi(a:Int)(l:List Th)(t u:Th)(r:List Th)(hs:u.sz=t.sz):zO a (l++u :: r)=upd (zO a (l++t :: r)) (a+total l) (some u):=by
 funext x
 unfold upd
 rw[zg5,zg5,zbz,zbz,hs]
 by_cases h:x=a+total l
 ·rw[if_pos h,if_neg (by omega),if_pos h]
 ·rw[if_neg h,if_neg h,if_neg h]
theorem zrc(mk:Int->Int)(a:Int)(l:List Th)(t:Th)(r:List Th):Hd (encL mk a (l++t :: r)) (total l) (hdw (mk (a+total l)) t):=by
 have e:encL mk a (l++t :: r)=encL mk a l++(encT (mk (a+total l)) t++encL mk (a+total l+t.sz) r):=by rw[zcs,encL]
 have hl:(encL mk a (l++t :: r)).length=total l+(t.sz+total r):=by rw[zak,zd4,total]
 have hp:=zf1 t
 refine⟨by omega,?_,rfl,by simp[hdw],?_⟩
 ·rw[e,List.getElem?_append_right (by rw[zak];omega),zak,Nat.sub_self]
  rfl
 ·rw[hl]
  simp[hdw,Th.sz] at *
  omega
theorem zwg(mk:Int->Int)(a:Int)(l:List Th)(t:Th)(r:List Th)(i:Nat)(hi:i < t.fs.length):(encL mk a (l++t :: r))[total l+1+i]? = some (fld (t.fs[i]'hi)):=by
 have e:encL mk a (l++t :: r)=encL mk a l++(encT (mk (a+total l)) t++encL mk (a+total l+t.sz) r):=by rw[zcs,encL]
 rw[e,List.getElem?_append_right (by rw[zak];omega),zak,show total l+1+i - total l=i+1 by omega,List.getElem?_append_left (by rw[zc9];simp[Th.sz];omega),encT,List.getElem?_cons_succ,List.getElem?_map,gE hi]
 rfl
theorem zra(mk:Int->Int)(a:Int)(l:List Th)(t:Th)(r:List Th):((encL mk a (l++t :: r)).drop (total l)).take (t.fs.length+1)=encT (mk (a+total l)) t:=by
 have e:encL mk a (l++t :: r)=encL mk a l++(encT (mk (a+total l)) t++encL mk (a+total l+t.sz) r):=by rw[zcs,encL]
 rw[e,List.drop_append_of_le_length (by rw[zak];exact Nat.le_refl _),List.drop_of_length_le (by rw[zak];exact Nat.le_refl _),List.nil_append]
 have:t.fs.length+1=(encT (mk (a+total l)) t).length:=by rw[zc9];rfl
 rw[this]
 exact List.take_left
theorem zln{mk mk':Int->Int} : ∀ (a:Int) (ts:List Th),(∀ x t,zO a ts x=some t->mk' x=mk x)->encL mk' a ts=encL mk a ts
 | a,[],_=>rfl
 | a,t :: r,h=>by
  have hp:=zf1 t
  rw[encL,encL,h a t (by rw[zbz,if_pos rfl]),zln (a+t.sz) r (fun x u hu=>h x u (by
   have:=zg4 _ _ _ hu
   rw[zbz,if_neg (by omega)]
   exact hu))]
theorem zt4(mk:Int->Int)(a:Int)(l:List Th)(t:Th)(r:List Th)(m:Int):(encL mk a (l++t :: r)).set (total l) (hdw m t)=encL (upd mk (a+total l) m) a (l++t :: r):=by
 have hp:=zf1 t
 rw[zcs,encL,zcs,encL,zbf]
 rw[zln (mk:=mk) (mk':=upd mk (a+total l) m) a l (fun x u hu=>zav _ _ (by have:=zg4 _ _ _ hu;omega)),zln (mk:=mk) (mk':=upd mk (a+total l) m) _ r (fun x u hu=>zav _ _ (by have:=zg4 _ _ _ hu;omega))]
 rw[List.set_append_right _ _ (by rw[zak];exact Nat.le_refl _),zak,Nat.sub_self]
 rfl
theorem zwe(mk:Int->Int)(a:Int)(l:List Th)(t:Th)(r:List Th)(i:Nat)(hi:i < t.fs.length)(c:Cl):(encL mk a (l++t :: r)).set (total l+1+i) (fld c)=encL mk a (l++⟨t.kind,t.tag,t.fs.set i c⟩ :: r):=by
 have hz:(⟨t.kind,t.tag,t.fs.set i c⟩:Th).sz=t.sz:=by simp[Th.sz]
 rw[zcs,encL,zcs,encL,hz,List.set_append_right _ _ (by rw[zak];omega),zak,show total l+1+i - total l=i+1 by omega,List.set_append_left _ _ (by rw[zc9];simp[Th.sz];omega)]
 congr 2
 simp[encT,hdw,List.map_set]
def thP(P:Doc)(x:Int):Th:=(P x).getD default
def pos(P:Doc):List Int->Int->Nat
 | [],_=>0
 | y :: V,x=>if x=y then 0 else(thP P y).sz+pos P V x
def raw(P:Doc)(V:List Int):List Wd:=V.flatMap (fun x=>encT 0 (thP P x))
theorem zev(P:Doc)(V:List Int):(raw P V).length=zU P V:=by
 induction V with
 | nil=>rfl
 | cons x V ih=>
  have:raw P (x :: V)=encT 0 (thP P x)++raw P V:=rfl
  rw[this,lA,ih,zc9,zU]
  unfold Th.sz fsOf thP
  omega
theorem ze7(P:Doc)(V:List Int)(x:Int):raw P (V++[x])=raw P V++encT 0 (thP P x):=by simp[raw]
theorem zib(P:Doc)(W:List Int){x:Int} : ∀ V:List Int,x∈V->pos P (V++W) x=pos P V x
 | y :: V,h=>by
  rw[List.cons_append,pos,pos]
  by_cases e:x=y
  ·rw[if_pos e,if_pos e]
  ·rw[if_neg e,if_neg e,zib P W V (by rcases List.mem_cons.1 h with h | h;exact absurd h e;exact h)]
theorem zlc(P:Doc){x:Int} : ∀ V:List Int,x∉V->pos P (V++[x]) x=(raw P V).length
 | [],_=>by simp[pos,raw]
 | y :: V,h=>by
  have e:x≠y:=fun e=>h (by simp[e])
  have:raw P (y :: V)=encT 0 (thP P y)++raw P V:=rfl
  rw[List.cons_append,pos,if_neg e,zlc P V (fun hm=>h (by simp[hm])),this,lA,zc9]
theorem zpu(P:Doc){x y:Int} : ∀ V:List Int,x∈V->y∈V->pos P V x=pos P V y->x=y
 | z :: V,hx,hy,h=>by
  have:=zf1 (thP P z)
  rw[pos,pos] at h
  by_cases ex:x=z
  ·by_cases ey:y=z
   ·rw[ex,ey]
   ·rw[if_pos ex,if_neg ey] at h
    omega
  ·by_cases ey:y=z
   ·rw[if_neg ex,if_pos ey] at h
    omega
   ·rw[if_neg ex,if_neg ey] at h
    exact zpu P V (by rcases List.mem_cons.1 hx with h | h;exact absurd h ex;exact h) (by rcases List.mem_cons.1 hy with h | h;exact absurd h ey;exact h) (by omega)
theorem zut(P:Doc){x:Int} : ∀ V:List Int,x∈V->pos P V x < (raw P V).length
 | z :: V,hx=>by
  have:=zf1 (thP P z)
  have e:raw P (z :: V)=encT 0 (thP P z)++raw P V:=rfl
  rw[pos,e,lA,zc9]
  by_cases ex:x=z
  ·rw[if_pos ex];omega
  ·rw[if_neg ex]
   have:=zut P V (by rcases List.mem_cons.1 hx with h | h;exact absurd h ex;exact h)
   omega
def mkV(P:Doc)(V:List Int):Int->Int:=fun x=>if x∈V then(pos P V x:Int)+1 else 0
theorem zs9(P:Doc)(V:List Int){x:Int}(hx:x∉V):mkV P (V++[x])=upd (mkV P V) x ((raw P V).length+1):=by
 funext y
 unfold mkV upd
 show(if y∈V++[x] then((pos P (V++[x]) y:Nat):Int)+1 else 0)=if y=x then _ else(if y∈V then((pos P V y:Nat):Int)+1 else 0)
 by_cases e:y=x
 ·subst e
  rw[if_pos (by simp),if_pos rfl,zlc P V hx]
 ·rw[if_neg e]
  by_cases hy:y∈V
  ·rw[if_pos (by simp[hy]),if_pos hy,zib P [x] V hy]
  ·rw[if_neg (by simp[hy,e]),if_neg hy]
def fw(P:Doc)(tf:Int)(V:List Int):Int->Int:=fun x=>tf+pos P V x
def mvW(f:Int->Int)(w:Wd):Wd:=if w.part=1 then {w with n:=f w.n} else w
def mvT(f:Int->Int)(t:Th):Th:=⟨t.kind,t.tag,t.fs.map (mvC f)⟩
theorem zvw(f:Int->Int)(m:Int)(t:Th):mvW f (hdw m t)=hdw m t:=rfl
theorem zvx(f:Int->Int)(c:Cl):mvW f (fld c)=fld (mvC f c):=by
 obtain⟨p,n⟩:=c
 cases p <;> rfl
theorem zvy(f:Int->Int)(m:Int)(t:Th):(encT m t).map (mvW f)=encT m (mvT f t):=by
 unfold encT mvT
 rw[List.map_cons,zvw,List.map_map,List.map_map]
 congr 1
 ·simp[hdw]
 ·exact List.map_congr_left (fun c _=>zvx f c)
def scan(P:Doc)(tf:Int)(V:List Int)(i:Nat):List Wd:=((raw P V).take i).map (mvW (fw P tf V))++(raw P V).drop i
def Sn(P:Doc)(V:List Int)(i:Nat):Prop:=∀ w∈(raw P V).take i,w.part=1->w.n∈V
theorem zdq(P:Doc)(tf:Int)(V:List Int)(i:Nat):(scan P tf V i).length=(raw P V).length:=by
 simp[scan]
 omega
theorem zl2(P:Doc)(tf:Int)(V:List Int)(i:Nat)(hi:i < (raw P V).length):(scan P tf V i)[i]? = (raw P V)[i]?:=by
 unfold scan
 rw[List.getElem?_append_right (by simp;omega)]
 simp
 congr 1
 omega
theorem zi8(l:List Wd)(i:Nat)(hi:i < l.length):l.take (i+1)=l.take i++[l[i]'hi]:=by rw[List.take_add_one,gE hi];rfl
theorem zjf(P:Doc)(tf:Int)(V:List Int)(i:Nat)(hi:i < (raw P V).length):scan P tf V (i+1)=(scan P tf V i).set i (mvW (fw P tf V) ((raw P V)[i]'hi)):=by
 unfold scan
 have h1:(((raw P V).take i).map (mvW (fw P tf V))).length=i:=by simp;omega
 rw[List.set_append_right _ _ (by omega),h1,Nat.sub_self,zi8 _ _ hi,List.map_append,List.append_assoc,List.drop_eq_getElem_cons hi]
 rfl
theorem Sn.next{P:Doc}{V:List Int}{i:Nat}(h:Sn P V i)(hi:i < (raw P V).length)(hx:((raw P V)[i]'hi).part=1->((raw P V)[i]'hi).n∈V):Sn P V (i+1):=by
 intro w hw hp
 rw[zi8 _ _ hi] at hw
 rcases List.mem_append.1 hw with hw | hw
 ·exact h w hw hp
 ·simp at hw
  subst hw
  exact hx hp
theorem Sn.more{P:Doc}{V:List Int}{i:Nat}(h:Sn P V i)(hi:i<=(raw P V).length)(x:Int):Sn P (V++[x]) i:=by
 intro w hw hp
 rw[ze7,List.take_append_of_le_length hi] at hw
 exact List.mem_append_left _ (h w hw hp)
theorem zpa{P:Doc}(tf:Int){V:List Int}{i:Nat}(h:Sn P V i)(hi:i<=(raw P V).length)(x:Int):scan P tf (V++[x]) i=scan P tf V i++encT 0 (thP P x):=by
 unfold scan
 rw[ze7,List.take_append_of_le_length hi,List.drop_append_of_le_length hi,List.append_assoc]
 congr 1
 refine List.map_congr_left (fun w hw=>?_)
 unfold mvW
 by_cases hp:w.part=1
 ·rw[if_pos hp,if_pos hp]
  unfold fw
  rw[zib P [x] V (h w hw hp)]
 ·rw[if_neg hp,if_neg hp]
theorem zk6(f:Int->Int)(P:Doc):∀ (tf:Int) (V:List Int),(raw P V).map (mvW f)=encL (fun _=>0) tf (V.map (fun x=>mvT f (thP P x)))
 | _,[]=>rfl
 | tf,x :: V=>by
  have e:raw P (x :: V)=encT 0 (thP P x)++raw P V:=rfl
  rw[e,List.map_append,zvy,List.map_cons,encL,zk6 f P _ V]
theorem zl3(P:Doc)(tf:Int)(V:List Int):scan P tf V (raw P V).length=encL (fun _=>0) tf (V.map (fun x=>mvT (fw P tf V) (thP P x))):=by
 unfold scan
 rw[List.take_length,List.drop_length,List.append_nil]
 exact zk6 _ P tf V
theorem zlo(P:Doc)(g:Int->Th)(hg:∀ x,(g x).sz=(thP P x).sz):∀ (tf:Int) (V:List Int) (x:Int),x∈V->zO tf (V.map g) (tf+pos P V x)=some (g x)
 | tf,y :: V,x,h=>by
  rw[List.map_cons,zbz,pos]
  by_cases e:x=y
  ·rw[if_pos e,if_pos (by omega),e]
  ·have hs:=zf1 (thP P y)
   rw[if_neg e,if_neg (by omega),hg y]
   have:=zlo P g hg (tf+(thP P y).sz) V x (by rcases List.mem_cons.1 h with h | h;exact absurd h e;exact h)
   rw[<-this]
   congr 1
   omega
theorem zvl{P:Doc}{V:List Int}{w:Wd}(h:w∈raw P V)(hp:w.part=1):∃ z∈V,⟨true,w.n⟩∈(thP P z).fs:=by
 obtain⟨z,hz,hw⟩:=List.mem_flatMap.1 h
 refine⟨z,hz,?_⟩
 rcases List.mem_cons.1 hw with hw | hw
 ·rw[hw] at hp
  simp[hdw] at hp
 ·obtain⟨⟨p,n⟩,hc,rfl⟩:=List.mem_map.1 hw
  cases p
  ·simp[fld] at hp
  ·exact hc
def zdn(a:Int)(ts:List Th):Prop:=∀ t∈ts,∀ y,⟨true,y⟩∈t.fs->(zO a ts y).isSome=true
def zc5(P:Doc)(rs:List Cl):Prop:=∀ y,⟨true,y⟩∈rs->(P y).isSome=true
theorem zg3{a:Int}{ts:List Th}{x:Int}{t:Th}(h:zO a ts x=some t):t∈ts:=by
 obtain⟨l,r,rfl,_⟩:=zed _ _ _ h
 simp
theorem zhs{a:Int}{ts:List Th}{rs:List Cl}(hc:zdn a ts)(hr:zc5 (zO a ts) rs){x:Int}(h:Reach (zO a ts) rs x):(zO a ts x).isSome=true:=by
 cases h with
 | root _ h=>exact hr x h
 | field y _ t _ ht hf=>exact hc t (zg3 ht) x hf
theorem zfl:∀ (a:Int) (ts:List Th) (x:Int),x∈addrs a ts↔(zO a ts x).isSome=true
 | a,[],x=>by simp[addrs,zO]
 | a,t :: r,x=>by
  rw[addrs,List.mem_cons,zbz,zfl]
  by_cases e:x=a
  ·simp[e]
  ·rw[if_neg e]
   simp[e]
theorem zhh:∀ (l r:List Th) (a:Int),zU (zO a (l++r)) (addrs (a+total l) r)=total r
 | l,[],a=>by simp[addrs,zU,total]
 | l,t :: r,a=>by
  rw[addrs,zU,total]
  have h1:fsOf (zO a (l++t :: r)) (a+total l)=t.fs:=by unfold fsOf;rw[zxr];rfl
  have h2:=zhh (l++[t]) r a
  rw[List.append_assoc,List.singleton_append,zd4] at h2
  simp only[total,Nat.add_zero] at h2
  have e:a+(total l:Int)+(t.sz:Int)=a+((total l+t.sz:Nat):Int):=by omega
  rw[h1,e,h2]
  simp only[Th.sz]
  omega
theorem zeo{a:Int}{ts:List Th}{V:List Int}(hn:V.Nodup)(hV:∀ x∈V,(zO a ts x).isSome=true):zU (zO a ts) V<=total ts:=by
 have h0:=zhh [] ts a
 simp only[List.nil_append,total,show a+((0:Nat):Int)=a by omega] at h0
 have h1:=zdy (zO a ts) V (addrs a ts) hn (fun x hx=>(zfl a ts x).2 (hV x hx))
 have h2:=zig V (addrs a ts) hn (fun x hx=>(zfl a ts x).2 (hV x hx))
 rw[zef] at h0 ⊢
 omega
theorem zqg{a:Int}{ts:List Th}{rs:List Cl}(tf:Int){V:List Int}(hV:∀ x,x∈V↔Reach (zO a ts) rs x) :
  Moved (zO a ts) (zO tf (V.map (fun x=>mvT (fw (zO a ts) tf V) (thP (zO a ts) x)))) rs (fw (zO a ts) tf V):=by
 refine⟨fun x y hx hy h=>?_,fun x t hx ht=>?_⟩
 ·unfold fw at h
  exact zpu (zO a ts) V ((hV x).2 hx) ((hV y).2 hy) (by omega)
 ·have:=zlo (zO a ts) (fun x=>mvT (fw (zO a ts) tf V) (thP (zO a ts) x)) (fun x=>by simp[mvT,Th.sz]) tf V x ((hV x).2 hx)
  unfold fw at this ⊢
  rw[this]
  unfold thP
  rw[ht]
  rfl
theorem zj0{a:Int}{ts:List Th}{rs:List Cl}(tf:Int){V:List Int}(hV:∀ x,x∈V↔Reach (zO a ts) rs x)(hs:∀ x∈V,(zO a ts x).isSome=true) :
  zdn tf (V.map (fun x=>mvT (fw (zO a ts) tf V) (thP (zO a ts) x)))/\zc5 (zO tf (V.map (fun x=>mvT (fw (zO a ts) tf V) (thP (zO a ts) x)))) (rs.map (mvC (fw (zO a ts) tf V))):=by
 have hd:∀ z∈V,(zO tf (V.map (fun x=>mvT (fw (zO a ts) tf V) (thP (zO a ts) x))) (fw (zO a ts) tf V z)).isSome=true:=fun z hz=>by
  have:=zlo (zO a ts) (fun x=>mvT (fw (zO a ts) tf V) (thP (zO a ts) x)) (fun x=>by simp[mvT,Th.sz]) tf V z hz
  unfold fw at this ⊢
  rw[this]
  rfl
 have hm:∀ (c:Cl) (y:Int),⟨true,y⟩=mvC (fw (zO a ts) tf V) c->c=⟨true,c.n⟩/\y=fw (zO a ts) tf V c.n:=fun c y h=>by
  obtain⟨p,n⟩:=c
  unfold mvC at h
  cases p
  ·simp at h
  ·simp at h
   exact⟨rfl,h⟩
 refine⟨fun t ht y hy=>?_,fun y hy=>?_⟩
 ·obtain⟨x,hx,rfl⟩:=List.mem_map.1 ht
  obtain⟨c,hc,e⟩:=List.mem_map.1 hy
  obtain⟨e1,rfl⟩:=hm c y e.symm
  refine hd _ ((hV _).2 ?_)
  obtain⟨u,hu⟩:=Option.isSome_iff_exists.1 (hs x hx)
  refine Reach.field x _ u ((hV x).1 hx) hu ?_
  unfold thP at hc
  rw[hu] at hc
  rw[<-e1]
  exact hc
 ·obtain⟨c,hc,e⟩:=List.mem_map.1 hy
  obtain⟨e1,rfl⟩:=hm c y e.symm
  exact hd _ ((hV _).2 (Reach.root _ (e1 ▸ hc)))
end Go.Proofs.YtkcmachfagcnaaaGreatDoor
