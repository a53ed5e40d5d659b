/- Part of Greater. -/
import Derived.Test.YtkcmachfagcnaaaGreatDoorB36
import Derived.Test.YtkcmachfagcnaaaGreatDoorB40
set_option maxHeartbeats 8000000
set_option maxRecDepth 100000
namespace Go.Proofs.YtkcmachfagcnaaaGreatDoor
open Go.RowKit Go.Deep Go.IntWalk
open C12 (zX zF Cd Fn In zT)
namespace C12
theorem znb(w:World)(p:Option Addr)(nt cap:Nat)(p':Option Addr)(cap':Nat)(fs:List Fn)(k:Nat)(hk:k < 26)(a c:Int)(h13i:k=13->0<=a/\a < fs.length)(h12i:k=12->0<=a/\a < 15)(hF:zF w p' fs)(hS:ShIn w)(hG:SgIn w) :
  Calls Tryz.prog 46 #[.agg #[.slice p nt cap,.slice p' fs.length cap'],.agg #[.int .i64 k,.int .i64 a,.int .i64 c]] w fun e w'=>e=.returned (.int .i64 (zT fs ⟨k,a,c⟩))/\Below w.heap.size w w':=by
 have hba:Below w.heap.size w ((w.alloc (.cells #[.slice p nt cap,.slice p' fs.length cap'] 25)).alloc (.cells #[.int .i64 k,.int .i64 a,.int .i64 c] 44)):=((Below.refl _ _).alloc (Nat.le_refl _) _).alloc (by simp) _
 have HB:=zh hba
 have hk':(k:Int) < 26:=by omega
 by_cases h7:k=7
 ·subst h7
  rw[show zT fs ⟨(7:Nat),a,c⟩=c by simp[zT]]
  clear hba hk'
  go_enter Tryz.func46,Tryz.ntmps46
  go_wp2
  go_ret
  exact⟨rfl,HB.o⟩
 by_cases h13:k=13
 ·subst h13
  obtain⟨a1,a2⟩:=h13i rfl
  obtain⟨j,rfl⟩:∃ j:Nat,a=(j:Int):=⟨a.toNat,by omega⟩
  have hj:j < fs.length:=by omega
  obtain⟨fb,fo,q,qc,rfl,hbw,hfc,hIn⟩:=(hF.below hba).get j hj
  obtain⟨y0,y1,y2⟩:=hfc
  rw[show zT fs ⟨(13:Nat),j,c⟩=(fs[j]'hj).free by simp[zT,hj]]
  clear hba hk' hIn h13i h12i
  generalize (fs[j]'hj).free=fr at *
  simp only[Int.cast_ofNat_Int] at *
  go_enter Tryz.func46,Tryz.ntmps46
  go_wp2
  go_ret
  exact⟨rfl,HB.o⟩
 have hx7:((k:Int) == 7)=false:=by simp;omega
 have hx13:((k:Int) == 13)=false:=by simp;omega
 by_cases h12:k=12
 ·subst h12
  obtain⟨a1,a2⟩:=h12i rfl
  obtain⟨j,rfl⟩:∃ j:Nat,a=(j:Int):=⟨a.toNat,by omega⟩
  have hj:j < 15:=by omega
  have g0:=(hG.below hba).cell j hj
  have hj':(j:Int) < 15:=by omega
  have hT:zT fs ⟨(12:Nat),j,c⟩=if j=12\/j=14 then 1 else 2:=by
   simp only[zT]
   simp
   omega
  rw[hT]
  clear hba hk' h13i h12i hT hx7 hx13 h7 h13
  have:j=0\/j=1\/j=2\/j=3\/j=4\/j=5\/j=6\/j=7\/j=8\/j=9\/j=10\/j=11\/j=12\/j=13\/j=14:=by omega
  rcases this with rfl | rfl | rfl | rfl | rfl | rfl | rfl | rfl | rfl | rfl | rfl | rfl | rfl | rfl | rfl
  all_goals simp only[signT,List.getElem?_cons_zero,List.getElem?_cons_succ,Option.getD_some] at g0
  all_goals simp only[Int.cast_ofNat_Int] at *
  all_goals go_enter Tryz.func46,Tryz.ntmps46
  all_goals go_wp2
  all_goals go_ret
  all_goals exact⟨rfl,HB.o⟩
 have hx12:((k:Int) == 12)=false:=by simp;omega
 obtain⟨-,c1,-⟩:=(hS.below hba).cells k hk
 rw[zho fs k hk a c h7 h12 h13]
 clear hba h13i h12i h7 h12 h13
 generalize takeOf k=tk at *
 go_enter Tryz.func46,Tryz.ntmps46
 go_wp2
 go_ret
 exact⟨rfl,HB.o⟩
end C12
structure Env(X:Fx):Prop where
 lib:LibIn X.wc
 ex:ExIn X.wc
 tx:zX X.wc X.pt X.cd.texts
 fu:zF X.wc X.pf X.cd.funs
 sh:C12.ShIn X.wc
 sg:C12.SgIn X.wc
section
variable{X:Fx}{w:World}{g:Pg}{m:AM}{R:Int->Int->Prop}
theorem zo3(h:J X w g m R)(E:Env X)(x:In)(hop:0<=x.op/\x.op<=25)(h13:x.op=13->0<=x.a/\x.a < X.cd.funs.length)(h12:x.op=12->0<=x.a/\x.a < 15):∀ wx,Kp [] w wx->Calls Tryz.prog 46 #[.agg #[.slice X.pt X.cd.texts.length X.ct,.slice X.pf X.cd.funs.length X.cf],.agg #[.int .i64 x.op,.int .i64 x.a,.int .i64 x.b]] wx fun e w'=>e=.returned (.int .i64 (zT X.cd.funs x))/\Kp [] w w':=by
 intro wx hx
 obtain⟨op,a,b⟩:=x
 simp only at *
 obtain⟨k,rfl⟩:∃ k:Nat,op=(k:Int):=⟨op.toNat,by omega⟩
 have hbl:=(h.kp hx).bl
 refine cM (C12.znb wx X.pt X.cd.texts.length X.ct X.pf X.cf X.cd.funs k (by omega) a b (fun e=>h13 (by omega)) (fun e=>h12 (by omega)) (E.fu.below hbl) (E.sh.below hbl) (E.sg.below hbl)) ?_
 rintro e w' ⟨rfl,hw⟩
 exact⟨rfl,hx.trans (Kp.zB hw)⟩
end
end Go.Proofs.YtkcmachfagcnaaaGreatDoor
namespace Go.Proofs.YtkcmachfagcnaaaGreatDoor
open Go.RowKit Go.Deep Go.IntWalk
open C12 (zX zF Cd Fn In zT)
section
variable{X:Fx}{w:World}{g:Pg}{m:AM}{R:Int->Int->Prop}
theorem zox{T:Nat->Nat->Nat}{k p:Nat}(h:J X w g m R)(E:Env X)(hc:CdOk X.cd T)(hm:Mid X.cd T k m p)(hnx:m.next+1<=1000000000)(hsl:m.s.sA.length<=1000000000){x:In}(hx:InOk X.cd (fnAt X.cd m.s.cur.num) (T m.s.cur.num.toNat) p x)(ht:¬ ((m.s.has:Int) < zT X.cd.funs x))(hop:¬ (x.op=6\/x.op=25\/x.op=14\/x.op=18\/x.op=19\/x.op=20\/x.op=21\/x.op=15\/x.op=16\/x.op=17\/x.op=22)):Calls Tryz.prog 58 #[.pointer (some ⟨X.mm,0,none⟩),.agg #[.int .i64 x.op,.int .i64 x.a,.int .i64 x.b]] w fun e w'=>zP X w g m (zW X.cd m.D m.s x) e w':=by
 have hn:0 < m.s.cA.length:=by rw[hm.eq];simp
 have hsb:=hm.cu.sb
 simp only at hsb
 have htv:zT X.cd.funs x<=(m.s.vA.length:Int):=by
  unfold St.has at ht
  omega
 have hopr:=hx.op
 have hcs:x.op=0\/x.op=1\/x.op=2\/x.op=3\/x.op=4\/x.op=5\/x.op=7\/x.op=8\/x.op=9\/x.op=10\/x.op=11\/x.op=12\/x.op=13\/x.op=23\/x.op=24:=by
  clear htv hsb
  omega
 have hcn:=hc.nt
 have hcf:=hc.nf
 clear ht hop hopr
 obtain⟨op,a,b⟩:=x
 simp only at hcs
 simp only
 rcases hcs with rfl | rfl | rfl | rfl | rfl | rfl | rfl | rfl | rfl | rfl | rfl | rfl | rfl | rfl | rfl
 ·rw[show zW X.cd m.D m.s ⟨0,a,b⟩=(.give (num a):Act1) from by simp[zW]]
  exact zm8 h a b (hx.num (Or.inl rfl))
 ·obtain⟨h1,h2⟩:=hx.str rfl
  simp only at h1 h2
  obtain⟨i,rfl⟩:∃ i:Nat,a=(i:Int):=⟨a.toNat,by omega⟩
  rw[show zW X.cd m.D m.s ⟨1,(i:Int),b⟩=(.make (zTT ((X.cd.texts[i]?).getD ⟨#[]⟩).data.toList):Act1) from by simp[zW]]
  exact zm7 h hn hnx E.tx hc.tx i b (by omega)
 ·rw[show zW X.cd m.D m.s ⟨2,a,b⟩=(.make ⟨1,60000+a,[]⟩:Act1) from by simp[zW]]
  exact zm6 h hn hnx a b (hx.bas rfl)
 ·rw[show zW X.cd m.D m.s ⟨3,a,b⟩=(.give m.s.cur.arg:Act1) from by simp[zW]]
  exact zm5 h hn a b
 ·obtain⟨h1,h2⟩:=hx.fre rfl
  simp only at h1 h2
  obtain⟨h3,u,h4,h5,h6⟩:=hm.cu.fn (by simp only;omega)
  simp only at h3 h4 h6
  obtain⟨i,rfl⟩:∃ i:Nat,a=(i:Int):=⟨a.toNat,by omega⟩
  rw[show zW X.cd m.D m.s ⟨4,(i:Int),b⟩=(.give (getA m.D m.s.cur.fn.n i):Act1) from by simp[zW]]
  exact zm4 h hn i b u h3 h4 (by omega)
 ·obtain⟨h1,h2⟩:=hx.slo (Or.inl rfl)
  simp only at h1 h2
  obtain⟨i,rfl⟩:∃ i:Nat,a=(i:Int):=⟨a.toNat,by omega⟩
  rw[show zW X.cd m.D m.s ⟨5,(i:Int),b⟩=(.give (m.s.slot i):Act1) from by simp[zW]]
  exact zm3 h hn i b (by omega) (by omega)
 ·obtain⟨h1,h2,h3,h4⟩:=hx.blo rfl
  simp only at h1 h2 h3 h4
  have e:zT X.cd.funs ⟨7,a,b⟩=b:=by simp[zT]
  rw[e] at htv
  rw[show zW X.cd m.D m.s ⟨7,a,b⟩=(.make ⟨0,a,m.s.lastN b.toNat⟩:Act1) from by simp[zW]]
  exact zm2 h hn hnx a b ⟨h1,h2⟩ ⟨by omega,h4⟩ (by omega)
 ·obtain⟨h1,h2⟩:=hx.fie (Or.inl rfl)
  simp only at h1 h2
  have e:zT X.cd.funs ⟨8,a,b⟩=1:=by simp[zT]
  rw[e] at htv
  obtain⟨i,rfl⟩:∃ i:Nat,a=(i:Int):=⟨a.toNat,by omega⟩
  rw[show zW X.cd m.D m.s ⟨8,(i:Int),b⟩=(if hasF m.D (m.s.top 0) 0 i then .give (getA m.D (m.s.top 0).n i) else .wrong:Act1) from by simp[zW]]
  exact zm1 h (by omega) i b
 ·have e:zT X.cd.funs ⟨9,a,b⟩=1:=by simp[zT]
  rw[e] at htv
  rw[show zW X.cd m.D m.s ⟨9,a,b⟩=(.give (truth (decide (m.s.top 0=num a))):Act1) from by simp[zW]]
  exact zm0 h (by omega) a b
 ·have e:zT X.cd.funs ⟨10,a,b⟩=1:=by simp[zT]
  rw[e] at htv
  rw[show zW X.cd m.D m.s ⟨10,a,b⟩=(.give (truth (thK m.D (m.s.top 0) 0 && decide (tagA m.D (m.s.top 0).n=a))):Act1) from by simp[zW]]
  exact zkp h (by omega) a b
 ·have e:zT X.cd.funs ⟨11,a,b⟩=2:=by simp[zT]
  rw[e] at htv
  rw[show zW X.cd m.D m.s ⟨11,a,b⟩=(.give (truth (decide (m.s.top 1=m.s.top 0))):Act1) from by simp[zW]]
  exact zko h (by omega) a b
 ·obtain⟨h1,h2⟩:=hx.sig rfl
  simp only at h1 h2
  obtain⟨i,rfl⟩:∃ i:Nat,a=(i:Int):=⟨a.toNat,by omega⟩
  have e:zT X.cd.funs ⟨12,i,b⟩=if(i:Int)=12\/(i:Int)=14 then 1 else 2:=by simp[zT]
  rw[e] at htv
  rw[show zW X.cd m.D m.s ⟨12,(i:Int),b⟩=(signA m.D i (m.s.top 1) (m.s.top 0):Act1) from by simp[zW]]
  refine zkn h hm.d hn hnx i b (by omega) ?_ (zd5 hm.va 0) (zd5 hm.va 1)
  split
  ·rw[if_pos (by omega)] at htv
   omega
  ·rw[if_neg (by omega)] at htv
   omega
 ·obtain⟨h1,h2⟩:=hx.mak rfl
  simp only at h1 h2
  obtain⟨i,rfl⟩:∃ i:Nat,a=(i:Int):=⟨a.toNat,by omega⟩
  have hi:i < X.cd.funs.length:=by omega
  have hfr:=(hc.fn i hi).free
  have e:zT X.cd.funs ⟨13,i,b⟩=((X.cd.funs[i]?).getD default).free:=by simp[zT]
  rw[e] at htv
  have e2:((X.cd.funs[i]?).getD default).free=(X.cd.funs[i]'hi).free:=by rw[gE hi];rfl
  rw[e2] at htv
  have hv:=zkm h hn hnx E.fu i b hi (by omega) (X.cd.funs[i]'hi).free.toNat (by rw[e2];omega) (by omega) (by omega)
  rw[show zW X.cd m.D m.s ⟨13,(i:Int),b⟩=(.make ⟨1,(i:Int),m.s.lastN (X.cd.funs[i]'hi).free.toNat⟩:Act1) from by simp[zW,hi]]
  exact hv
 ·obtain⟨h1,h2,h3,h4⟩:=hx.exn rfl
  simp only at h1 h2 h3 h4
  rw[show zW X.cd m.D m.s ⟨23,a,b⟩=(.make ⟨4,b,[num a]⟩:Act1) from by simp[zW]]
  exact zkl h hn hnx a b ⟨h1,by omega⟩ ⟨h3,by omega⟩
 ·rw[show zW X.cd m.D m.s ⟨24,a,b⟩=(.give (num (-1 - a)):Act1) from by simp[zW]]
  exact zkk h a b (hx.std rfl)
end
end Go.Proofs.YtkcmachfagcnaaaGreatDoor
namespace Go.Proofs.YtkcmachfagcnaaaGreatDoor
open Go.RowKit Go.Deep
open C12 (Cd Fn In zT)
section
variable {X : Fx} {w : World} {g : Pg} {m : AM} {R : Int → Int → Prop}
theorem preD (h : J X w g m R) (E : Env X) (hk0 : m.kind = 0) (hn : 0 < m.s.cA.length) (hvb : m.s.cur.vb ≤ m.s.vA.length) (op a b : Int) {n : Nat} (htp : zT X.cd.funs ⟨op, a, b⟩ = ((n : Nat) : Int)) (hop : 0 ≤ op ∧ op ≤ 25 := by decide) (h13 : op = 13 → 0 ≤ a ∧ a < X.cd.funs.length := by exact fun e => absurd e (by simp)) (h12 : op = 12 → 0 ≤ a ∧ a < 15 := by exact fun e => absurd e (by simp)) : Hid (Mv X w g (w.alloc (Obj.cells #[.int .i64 op, .int .i64 a, .int .i64 b] 44)) g ∧ (w.alloc (Obj.cells #[.int .i64 op, .int .i64 a, .int .i64 b] 44)).heap[w.heap.size]? = some (Obj.cells #[.int .i64 op, .int .i64 a, .int .i64 b] 44) ∧ Off X (w.alloc (Obj.cells #[.int .i64 op, .int .i64 a, .int .i64 b] 44)) g (w.heap.size) ∧ X.wc.heap.size ≤ w.heap.size) ∧ Hid (J X (w.alloc (Obj.cells #[.int .i64 op, .int .i64 a, .int .i64 b] 44)) g m R) ∧ Hid (∀ wx, Kp [] (w.alloc (Obj.cells #[.int .i64 op, .int .i64 a, .int .i64 b] 44)) wx → Calls Tryz.prog 46 #[.agg #[.slice X.pt X.cd.texts.length X.ct, .slice X.pf X.cd.funs.length X.cf], .agg #[.int .i64 op, .int .i64 a, .int .i64 b]] wx fun e w' => e = .returned (.int .i64 ((n : Nat) : Int)) ∧ Kp [] (w.alloc (Obj.cells #[.int .i64 op, .int .i64 a, .int .i64 b] 44)) w') ∧ Hid (∀ wx, Kp [] (w.alloc (Obj.cells #[.int .i64 op, .int .i64 a, .int .i64 b] 44)) wx → Calls Tryz.prog 47 #[.pointer (some ⟨X.mm, 0, none⟩)] wx fun e w' => e = .returned (.int .i64 (m.s.has : Nat)) ∧ Kp [] (w.alloc (Obj.cells #[.int .i64 op, .int .i64 a, .int .i64 b] 44)) w') ∧ Hid (∀ wx, Kp [] (w.alloc (Obj.cells #[.int .i64 op, .int .i64 a, .int .i64 b] 44)) wx → wx.cell? ⟨X.mm, 0, none⟩ = some (.slice X.pt X.cd.texts.length X.ct) ∧ wx.cell? ⟨X.mm, 1, none⟩ = some (.slice X.pf X.cd.funs.length X.cf) ∧ X.mm < wx.heap.size ∧ wx.cell? ⟨w.heap.size, 0, none⟩ = some (.int .i64 op) ∧ wx.cell? ⟨w.heap.size, 1, none⟩ = some (.int .i64 a) ∧ wx.cell? ⟨w.heap.size, 2, none⟩ = some (.int .i64 b) ∧ w.heap.size < wx.heap.size) ∧ Hid (Kp [] (w.alloc (Obj.cells #[.int .i64 op, .int .i64 a, .int .i64 b] 44)) (w.alloc (Obj.cells #[.int .i64 op, .int .i64 a, .int .i64 b] 44)).drew) ∧ Hid (m.kind = 0 ∧ 0 < m.s.cA.length ∧ m.s.cur.vb ≤ m.s.vA.length ∧ g.s.vA.length = m.s.vA.length ∧ g.s.cA.length = m.s.cA.length) := by
  obtain ⟨HB, HJ⟩ := pre1 h (Obj.cells #[.int .i64 op, .int .i64 a, .int .i64 b] 44)
  have hvl := h.vlen
  have hcl := h.clen
  have hcu := h.cur hn
  have hhas : g.s.has = m.s.has := by
    unfold St.has
    rw [hvl, hcu.vb]
  refine ⟨HB, HJ, ?_, ?_, fun wx hx => ?_, kr.drew, hk0, hn, hvb, hvl, hcl⟩
  · have h5 := zo3 HJ.o E ⟨op, a, b⟩ hop h13 h12
    rw [htp] at h5
    exact h5
  · have h5 := zq1 HJ.o (by omega) (by rw [hvl, hcu.vb]; exact hvb)
    rw [hhas] at h5
    exact h5
  · have e3 := (hx.block _ HB.o.2.2.1.1 (by simp)).trans HB.o.2.1
    have hb1 := (HJ.o.box.kp hx (by simp)).code
    obtain ⟨f0, f1, f2, f3⟩ := zb9 e3
    exact ⟨hb1.1, hb1.2.1, hb1.2.2, f0, f1, f2, f3⟩
theorem preDW (h : J X w g m R) (E : Env X) (hk0 : m.kind = 0) (hn : 0 < m.s.cA.length) (hvb : m.s.cur.vb ≤ m.s.vA.length) (op a b : Int) {n : Nat} (htp : zT X.cd.funs ⟨op, a, b⟩ = ((n : Nat) : Int)) (hop : 0 ≤ op ∧ op ≤ 25 := by decide) (h13 : op = 13 → 0 ≤ a ∧ a < X.cd.funs.length := by exact fun e => absurd e (by simp)) (h12 : op = 12 → 0 ≤ a ∧ a < 15 := by exact fun e => absurd e (by simp)) : ∃ W, Hid (W = w.alloc (Obj.cells #[.int .i64 op, .int .i64 a, .int .i64 b] 44)) ∧ Hid (Mv X w g W g ∧ W.heap[w.heap.size]? = some (Obj.cells #[.int .i64 op, .int .i64 a, .int .i64 b] 44) ∧ Off X W g (w.heap.size) ∧ X.wc.heap.size ≤ w.heap.size) ∧ Hid (J X W g m R) ∧ Hid (∀ wx, Kp [] W wx → Calls Tryz.prog 46 #[.agg #[.slice X.pt X.cd.texts.length X.ct, .slice X.pf X.cd.funs.length X.cf], .agg #[.int .i64 op, .int .i64 a, .int .i64 b]] wx fun e w' => e = .returned (.int .i64 ((n : Nat) : Int)) ∧ Kp [] W w') ∧ Hid (∀ wx, Kp [] W wx → Calls Tryz.prog 47 #[.pointer (some ⟨X.mm, 0, none⟩)] wx fun e w' => e = .returned (.int .i64 (m.s.has : Nat)) ∧ Kp [] W w') ∧ Hid (∀ wx, Kp [] W wx → wx.cell? ⟨X.mm, 0, none⟩ = some (.slice X.pt X.cd.texts.length X.ct) ∧ wx.cell? ⟨X.mm, 1, none⟩ = some (.slice X.pf X.cd.funs.length X.cf) ∧ X.mm < wx.heap.size ∧ wx.cell? ⟨w.heap.size, 0, none⟩ = some (.int .i64 op) ∧ wx.cell? ⟨w.heap.size, 1, none⟩ = some (.int .i64 a) ∧ wx.cell? ⟨w.heap.size, 2, none⟩ = some (.int .i64 b) ∧ w.heap.size < wx.heap.size) ∧ Hid (Kp [] W W.drew) ∧ Hid (m.kind = 0 ∧ 0 < m.s.cA.length ∧ m.s.cur.vb ≤ m.s.vA.length ∧ g.s.vA.length = m.s.vA.length ∧ g.s.cA.length = m.s.cA.length) := ⟨_, rfl, preD h E hk0 hn hvb op a b htp hop h13 h12⟩
end
end Go.Proofs.YtkcmachfagcnaaaGreatDoor
namespace Go.Proofs.YtkcmachfagcnaaaGreatDoor
open Go.RowKit Go.Deep Go.IntWalk
open C12 (zX zF Cd Fn In zT)
section
variable{X:Fx}{w:World}{g:Pg}{m:AM}{R:Int->Int->Prop}
theorem J.k0c{m1:AM}(h:J X w g m1 R)(hk:m1.kind=0):J X w g m1.k0 R:=by
 rw[AM.k0_eq hk]
 exact h
theorem zt7(h:J X w g m R)(E:Env X)(hk0:m.kind=0)(hn:0 < m.s.cA.length)(hvb:m.s.cur.vb<=m.s.vA.length)(a b:Int):Calls Tryz.prog 27 #[.pointer (some ⟨X.mm,0,none⟩),.agg #[.int .i64 25,.int .i64 a,.int .i64 b]] w fun e w'=>zD X w g (AM.doT (room X.cells) X.cd m ⟨25,a,b⟩ 1) e w':=by
 have htp:zT X.cd.funs ⟨25,a,b⟩=((1:Nat):Int):=by simp[zT]
 obtain⟨w1,hw1,HB,HJ,HTk,HHs,HF,HK0,HX⟩:=preDW h E hk0 hn hvb 25 a b htp
 have HE:=zh E
 generalize hM:AM.doT (room X.cells) X.cd m ⟨25,a,b⟩ 1=M
 have HM:=zh hM
 have Htp:=zh htp
 clear hM h E hk0 hn hvb htp
 go_enter Tryz.func27,Tryz.ntmps27
 go_upto_region 1 with fail
 rw[<-hw1.out]
 refine rQ HK0.o (fun ops Hops=>?_)
 repeat
  (refine wQ ?_;apply xI;(·intro wx hwx;obtain⟨x0,x1,x2,x3,x4,x5,x6⟩:=HF.o wx hwx;go_simp <;> first | with_reducible rfl | with_reducible exact⟨rfl,rfl⟩ | exact HTk.o _ hwx);try go_simp)
 refine wpQuiet_nil ?_
 clear Hops ops
 intro w2 hw2
 have H2:Hid _:=HHs.o w2 hw2
 clear hw2
 go_wp2_with fail
 refine cM H2.o ?_
 rintro e w3 ⟨rfl,hw3⟩
 by_cases hlt:m.s.has < 1
 ·have hltI:((m.s.has:Nat):Int) < ((1:Nat):Int):=by omega
  have Q:Hid (zD X w g M (.returned (.int .i64 4)) w3):=by
   unfold Hid
   rw[<-HM.o]
   unfold AM.doT
   rw[Htp.o,if_pos hltI]
   exact zD.of 4 rfl (g':=g) (R':=R) ((HJ.o.kp hw3).k0c HX.o.1) (HB.o.1.trans (Mv.zk hw3))
  clear hw3 hlt
  go_wp2_with fail
  exact bR (by simp[results,Tryz.results27,go_sem]) Q.o
 have hltI:¬ (((m.s.has:Nat):Int) < ((1:Nat):Int)):=by omega
 have HM2:Hid (({m with s:=m.s.drop 1,kind:=0} : AM)=M):=by
  unfold Hid
  rw[<-HM.o]
  unfold AM.doT
  rw[Htp.o,if_neg hltI]
  simp only
  rw[if_neg (show ¬ ((25:Int)=6) by decide),if_pos True.intro]
 have hle:1<=m.s.vA.length:=by
  unfold St.has at hlt
  omega
 have Hle:=zh hle
 have hk3:=hw3
 obtain⟨x0,x1,x2,x3,x4,x5,x6⟩:=HF.o w3 hw3
 have HJ3:Hid (_/\_/\_):=⟨HJ.o.kp hw3,HB.o.1.trans (Mv.zk hw3),hw3⟩
 clear hw3 hlt hle
 have HJS:=zh HJ3.o.1
 have HMv:Hid (_/\_):=⟨HJ3.o.2.1,HX.o.1⟩
 have Hlen:=zh Hle.o
 have HD:Hid _:=zba HJS.o 1 Hlen.o
 clear hk3
 go_wp2_with fail
 refine cM HD.o ?_
 rintro e w10 ⟨rfl,g10,hp10⟩
 have Q:Hid (zD X w g M (.returned (.int .i64 0)) w10):=by
  unfold Hid
  rw[<-HM2.o]
  exact zD.of 0 rfl (g':=g10) (R':=R) (hp10.j.k0c HMv.o.2) (HMv.o.1.trans hp10.mv)
 clear hp10
 go_wp2_with fail
 exact bR (by simp[results,Tryz.results27,go_sem]) Q.o
theorem zuf(h:J X w g m R)(E:Env X)(hk0:m.kind=0)(hn:0 < m.s.cA.length)(hvb:m.s.cur.vb<=m.s.vA.length)(a b:Int)(hd:okD X.cd m.D)(hnx:m.next+1<=1000000000)(hvl9:m.s.vA.length+1<=1000000000)(hsb:m.s.cur.sb<=m.s.sA.length)(htb:m.s.cur.tb<=m.s.tA.length)(htg:thK m.D (m.s.top 1) 1=true->0<=tagA m.D (m.s.top 1).n/\tagA m.D (m.s.top 1).n < 60012)(hok:okC (m.s.top 0))(hz:m.s.cur.vb+2<=m.s.vA.length->RzOk (m.s.drop 2)):Calls Tryz.prog 27 #[.pointer (some ⟨X.mm,0,none⟩),.agg #[.int .i64 15,.int .i64 a,.int .i64 b]] w fun e w'=>zD X w g (AM.doT (room X.cells) X.cd m ⟨15,a,b⟩ 2) e w':=by
 have htp:zT X.cd.funs ⟨15,a,b⟩=((2:Nat):Int):=by simp[zT]
 obtain⟨w1,hw1,HB,HJ,HTk,HHs,HF,HK0,HX⟩:=preDW h E hk0 hn hvb 15 a b htp
 have HE:=zh E
 generalize hM:AM.doT (room X.cells) X.cd m ⟨15,a,b⟩ 2=M
 have HM:=zh hM
 have Htp:=zh htp
 have HY:Hid (_/\_/\_/\_/\_/\_/\_/\_):=⟨hd,hnx,hvl9,hsb,htb,htg,hok,hz⟩
 clear hd hnx hvl9 hsb htb htg hok hz
 clear hM h E hk0 hn hvb htp
 go_enter Tryz.func27,Tryz.ntmps27
 go_upto_region 1 with fail
 rw[<-hw1.out]
 refine rQ HK0.o (fun ops Hops=>?_)
 repeat
  (refine wQ ?_;apply xI;(·intro wx hwx;obtain⟨x0,x1,x2,x3,x4,x5,x6⟩:=HF.o wx hwx;go_simp <;> first | with_reducible rfl | with_reducible exact⟨rfl,rfl⟩ | exact HTk.o _ hwx);try go_simp)
 refine wpQuiet_nil ?_
 clear Hops ops
 intro w2 hw2
 have H2:Hid _:=HHs.o w2 hw2
 clear hw2
 go_wp2_with fail
 refine cM H2.o ?_
 rintro e w3 ⟨rfl,hw3⟩
 by_cases hlt:m.s.has < 2
 ·have hltI:((m.s.has:Nat):Int) < ((2:Nat):Int):=by omega
  have Q:Hid (zD X w g M (.returned (.int .i64 4)) w3):=by
   unfold Hid
   rw[<-HM.o]
   unfold AM.doT
   rw[Htp.o,if_pos hltI]
   exact zD.of 4 rfl (g':=g) (R':=R) ((HJ.o.kp hw3).k0c HX.o.1) (HB.o.1.trans (Mv.zk hw3))
  clear hw3 hlt
  go_wp2_with fail
  exact bR (by simp[results,Tryz.results27,go_sem]) Q.o
 have hltI:¬ (((m.s.has:Nat):Int) < ((2:Nat):Int)):=by omega
 have HM2:Hid ((AM.call (room X.cells) X.cd m false:AM)=M):=by
  unfold Hid
  rw[<-HM.o]
  unfold AM.doT
  rw[Htp.o,if_neg hltI]
  simp only
  rw[if_neg (show ¬ ((15:Int)=6) by decide),if_neg (show ¬ ((15:Int)=25) by decide),if_neg (show ¬ ((15:Int)=14) by decide),if_neg (show ¬ ((15:Int)=18) by decide),if_neg (show ¬ ((15:Int)=19) by decide),if_neg (show ¬ ((15:Int)=20) by decide),if_neg (show ¬ ((15:Int)=21) by decide),if_pos (by simp)]
  all_goals first | rfl | simp
 have hle:2<=m.s.vA.length:=by
  unfold St.has at hlt
  omega
 have Hle2:Hid (m.s.cur.vb+2<=m.s.vA.length):=by
  have:=HX.o.2.2.1
  unfold Hid
  unfold St.has at hlt
  omega
 have Hle:=zh hle
 have hk3:=hw3
 obtain⟨x0,x1,x2,x3,x4,x5,x6⟩:=HF.o w3 hw3
 have HJ3:Hid (_/\_/\_):=⟨HJ.o.kp hw3,HB.o.1.trans (Mv.zk hw3),hw3⟩
 clear hw3 hlt hle
 obtain⟨y1,y2,y3,y4,y5,y6,y7,y8⟩:=HY.o
 have HC:Hid _:=zmx HJ3.o.1 y1 HE.o.lib HX.o.1 HE.o.ex HE.o.tx HX.o.2.1 y2 Hle.o y3 y4 HX.o.2.2.1 y5 y6 y7 (y8 Hle2.o) false
 rw[HM2.o] at HC
 clear y1 y2 y3 y4 y5 y6 y7 y8 hk3
 go_wp2_with fail
 refine cM HC.o ?_
 intro e w10 q0
 have q:=q0.from HJ3.o.2.1
 clear q0 x0 x1 x2 x3 x4 x5 x6
 cases q with
 | mk w10 g10 R10 hJ10 hm10=>
  have Q:Hid (zD X w g M (.returned (.int .i64 M.kind)) w10):=.mk w10 g10 R10 hJ10 hm10
  clear hJ10 hm10
  generalize M.kind=kd at *
  go_wp2_with fail
  exact bR (by simp[results,Tryz.results27,go_sem]) Q.o
theorem zue(h:J X w g m R)(E:Env X)(hk0:m.kind=0)(hn:0 < m.s.cA.length)(hvb:m.s.cur.vb<=m.s.vA.length)(a b:Int)(hd:okD X.cd m.D)(hnx:m.next+1<=1000000000)(hvl9:m.s.vA.length+1<=1000000000)(hsb:m.s.cur.sb<=m.s.sA.length)(htb:m.s.cur.tb<=m.s.tA.length)(htg:thK m.D (m.s.top 1) 1=true->0<=tagA m.D (m.s.top 1).n/\tagA m.D (m.s.top 1).n < 60012)(hok:okC (m.s.top 0))(hz:m.s.cur.vb+2<=m.s.vA.length->RzOk (m.s.drop 2)):Calls Tryz.prog 27 #[.pointer (some ⟨X.mm,0,none⟩),.agg #[.int .i64 16,.int .i64 a,.int .i64 b]] w fun e w'=>zD X w g (AM.doT (room X.cells) X.cd m ⟨16,a,b⟩ 2) e w':=by
 have htp:zT X.cd.funs ⟨16,a,b⟩=((2:Nat):Int):=by simp[zT]
 obtain⟨w1,hw1,HB,HJ,HTk,HHs,HF,HK0,HX⟩:=preDW h E hk0 hn hvb 16 a b htp
 have HE:=zh E
 generalize hM:AM.doT (room X.cells) X.cd m ⟨16,a,b⟩ 2=M
 have HM:=zh hM
 have Htp:=zh htp
 have HY:Hid (_/\_/\_/\_/\_/\_/\_/\_):=⟨hd,hnx,hvl9,hsb,htb,htg,hok,hz⟩
 clear hd hnx hvl9 hsb htb htg hok hz
 clear hM h E hk0 hn hvb htp
 go_enter Tryz.func27,Tryz.ntmps27
 go_upto_region 1 with fail
 rw[<-hw1.out]
 refine rQ HK0.o (fun ops Hops=>?_)
 repeat
  (refine wQ ?_;apply xI;(·intro wx hwx;obtain⟨x0,x1,x2,x3,x4,x5,x6⟩:=HF.o wx hwx;go_simp <;> first | with_reducible rfl | with_reducible exact⟨rfl,rfl⟩ | exact HTk.o _ hwx);try go_simp)
 refine wpQuiet_nil ?_
 clear Hops ops
 intro w2 hw2
 have H2:Hid _:=HHs.o w2 hw2
 clear hw2
 go_wp2_with fail
 refine cM H2.o ?_
 rintro e w3 ⟨rfl,hw3⟩
 by_cases hlt:m.s.has < 2
 ·have hltI:((m.s.has:Nat):Int) < ((2:Nat):Int):=by omega
  have Q:Hid (zD X w g M (.returned (.int .i64 4)) w3):=by
   unfold Hid
   rw[<-HM.o]
   unfold AM.doT
   rw[Htp.o,if_pos hltI]
   exact zD.of 4 rfl (g':=g) (R':=R) ((HJ.o.kp hw3).k0c HX.o.1) (HB.o.1.trans (Mv.zk hw3))
  clear hw3 hlt
  go_wp2_with fail
  exact bR (by simp[results,Tryz.results27,go_sem]) Q.o
 have hltI:¬ (((m.s.has:Nat):Int) < ((2:Nat):Int)):=by omega
 have HM2:Hid ((AM.call (room X.cells) X.cd m true:AM)=M):=by
  unfold Hid
  rw[<-HM.o]
  unfold AM.doT
  rw[Htp.o,if_neg hltI]
  simp only
  rw[if_neg (show ¬ ((16:Int)=6) by decide),if_neg (show ¬ ((16:Int)=25) by decide),if_neg (show ¬ ((16:Int)=14) by decide),if_neg (show ¬ ((16:Int)=18) by decide),if_neg (show ¬ ((16:Int)=19) by decide),if_neg (show ¬ ((16:Int)=20) by decide),if_neg (show ¬ ((16:Int)=21) by decide),if_pos (by simp)]
  all_goals first | rfl | simp
 have hle:2<=m.s.vA.length:=by
  unfold St.has at hlt
  omega
 have Hle2:Hid (m.s.cur.vb+2<=m.s.vA.length):=by
  have:=HX.o.2.2.1
  unfold Hid
  unfold St.has at hlt
  omega
 have Hle:=zh hle
 have hk3:=hw3
 obtain⟨x0,x1,x2,x3,x4,x5,x6⟩:=HF.o w3 hw3
 have HJ3:Hid (_/\_/\_):=⟨HJ.o.kp hw3,HB.o.1.trans (Mv.zk hw3),hw3⟩
 clear hw3 hlt hle
 obtain⟨y1,y2,y3,y4,y5,y6,y7,y8⟩:=HY.o
 have HC:Hid _:=zmx HJ3.o.1 y1 HE.o.lib HX.o.1 HE.o.ex HE.o.tx HX.o.2.1 y2 Hle.o y3 y4 HX.o.2.2.1 y5 y6 y7 (y8 Hle2.o) true
 rw[HM2.o] at HC
 clear y1 y2 y3 y4 y5 y6 y7 y8 hk3
 go_wp2_with fail
 refine cM HC.o ?_
 intro e w10 q0
 have q:=q0.from HJ3.o.2.1
 clear q0 x0 x1 x2 x3 x4 x5 x6
 cases q with
 | mk w10 g10 R10 hJ10 hm10=>
  have Q:Hid (zD X w g M (.returned (.int .i64 M.kind)) w10):=.mk w10 g10 R10 hJ10 hm10
  clear hJ10 hm10
  generalize M.kind=kd at *
  go_wp2_with fail
  exact bR (by simp[results,Tryz.results27,go_sem]) Q.o
theorem zud(h:J X w g m R)(E:Env X)(hk0:m.kind=0)(hn:0 < m.s.cA.length)(hvb:m.s.cur.vb<=m.s.vA.length)(a b:Int)(hvl9:m.s.vA.length+1<=1000000000)(hsb:m.s.cur.sb<=m.s.sA.length)(htb:m.s.cur.tb<=m.s.tA.length):Calls Tryz.prog 27 #[.pointer (some ⟨X.mm,0,none⟩),.agg #[.int .i64 17,.int .i64 a,.int .i64 b]] w fun e w'=>zD X w g (AM.doT (room X.cells) X.cd m ⟨17,a,b⟩ 1) e w':=by
 have htp:zT X.cd.funs ⟨17,a,b⟩=((1:Nat):Int):=by simp[zT]
 obtain⟨w1,hw1,HB,HJ,HTk,HHs,HF,HK0,HX⟩:=preDW h E hk0 hn hvb 17 a b htp
 have HE:=zh E
 generalize hM:AM.doT (room X.cells) X.cd m ⟨17,a,b⟩ 1=M
 have HM:=zh hM
 have Htp:=zh htp
 have HY:Hid (_/\_/\_):=⟨hvl9,hsb,htb⟩
 clear hvl9 hsb htb
 clear hM h E hk0 hn hvb htp
 go_enter Tryz.func27,Tryz.ntmps27
 go_upto_region 1 with fail
 rw[<-hw1.out]
 refine rQ HK0.o (fun ops Hops=>?_)
 repeat
  (refine wQ ?_;apply xI;(·intro wx hwx;obtain⟨x0,x1,x2,x3,x4,x5,x6⟩:=HF.o wx hwx;go_simp <;> first | with_reducible rfl | with_reducible exact⟨rfl,rfl⟩ | exact HTk.o _ hwx);try go_simp)
 refine wpQuiet_nil ?_
 clear Hops ops
 intro w2 hw2
 have H2:Hid _:=HHs.o w2 hw2
 clear hw2
 go_wp2_with fail
 refine cM H2.o ?_
 rintro e w3 ⟨rfl,hw3⟩
 by_cases hlt:m.s.has < 1
 ·have hltI:((m.s.has:Nat):Int) < ((1:Nat):Int):=by omega
  have Q:Hid (zD X w g M (.returned (.int .i64 4)) w3):=by
   unfold Hid
   rw[<-HM.o]
   unfold AM.doT
   rw[Htp.o,if_pos hltI]
   exact zD.of 4 rfl (g':=g) (R':=R) ((HJ.o.kp hw3).k0c HX.o.1) (HB.o.1.trans (Mv.zk hw3))
  clear hw3 hlt
  go_wp2_with fail
  exact bR (by simp[results,Tryz.results27,go_sem]) Q.o
 have hltI:¬ (((m.s.has:Nat):Int) < ((1:Nat):Int)):=by omega
 have HM2:Hid ((m.giveS (m.s.top 0):AM)=M):=by
  unfold Hid
  rw[<-HM.o]
  unfold AM.doT
  rw[Htp.o,if_neg hltI]
  simp only
  rw[if_neg (show ¬ ((17:Int)=6) by decide),if_neg (show ¬ ((17:Int)=25) by decide),if_neg (show ¬ ((17:Int)=14) by decide),if_neg (show ¬ ((17:Int)=18) by decide),if_neg (show ¬ ((17:Int)=19) by decide),if_neg (show ¬ ((17:Int)=20) by decide),if_neg (show ¬ ((17:Int)=21) by decide),if_neg (show ¬ ((17:Int)=15\/(17:Int)=16) by decide),if_pos True.intro]
 have hle:1<=m.s.vA.length:=by
  unfold St.has at hlt
  omega
 have Hle:=zh hle
 have hk3:=hw3
 obtain⟨x0,x1,x2,x3,x4,x5,x6⟩:=HF.o w3 hw3
 have HJ3:Hid (_/\_/\_):=⟨HJ.o.kp hw3,HB.o.1.trans (Mv.zk hw3),hw3⟩
 clear hw3 hlt hle
 have hl0:0 < m.s.vA.length:=Hle.o
 have HT0:Hid (Calls Tryz.prog 49 #[.pointer (some ⟨X.mm,0,none⟩),.int .i64 0] w3 fun e w'=>e=.returned (.agg #[.bool (g.s.top 0).p,.int .i64 (g.s.top 0).n])/\Kp [] w3 w'):=zbc HJ3.o.1 0 (by rw[HX.o.2.2.2.1];exact hl0) w3 kr
 have HG:Hid (∀ wx,Kp [] w3 wx->Calls Tryz.prog 54 #[.pointer (some ⟨X.mm,0,none⟩),.agg #[.bool (g.s.top 0).p,.int .i64 (g.s.top 0).n]] wx fun e w'=>zD X wx g M e w'):=fun wx hx=>by
  have h5:=zik (HJ3.o.1.kp hx) HX.o.1 HX.o.2.1 HY.o.2.1 HX.o.2.2.1 HY.o.2.2 HY.o.1 (g.s.top 0) (m.s.top 0) (HJ3.o.1.top 0 hl0) (HJ3.o.1.topwf 0 hl0)
  rw[HM2.o] at h5
  exact h5
 clear hk3 hl0
 generalize g.s.top 0=c0 at *
 obtain⟨ap,an⟩:=c0
 simp only at HT0 HG
 go_wp2_with fail
 refine cM HT0.o ?_
 rintro e w4 ⟨rfl,hw4⟩
 have H4:Hid _:=HG.o w4 hw4
 have Hm4:Hid _:=HJ3.o.2.1.trans (Mv.zk hw4)
 clear x0 x1 x2 x3 x4 x5 x6 hw4
 go_wp2_with fail
 refine cM H4.o ?_
 intro e w10 q0
 have q:=q0.from Hm4.o
 clear q0
 cases q with
 | mk w10 g10 R10 hJ10 hm10=>
  have Q:Hid (zD X w g M (.returned (.int .i64 M.kind)) w10):=.mk w10 g10 R10 hJ10 hm10
  clear hJ10 hm10
  generalize M.kind=kd at *
  go_wp2_with fail
  exact bR (by simp[results,Tryz.results27,go_sem]) Q.o
theorem zt8(h:J X w g m R)(E:Env X)(hk0:m.kind=0)(hn:0 < m.s.cA.length)(hvb:m.s.cur.vb<=m.s.vA.length)(a b:Int)(hz:m.s.cur.vb+1<=m.s.vA.length->RzOk (m.s.drop 1))(hd:okD X.cd m.D):Calls Tryz.prog 27 #[.pointer (some ⟨X.mm,0,none⟩),.agg #[.int .i64 22,.int .i64 a,.int .i64 b]] w fun e w'=>zD X w g (AM.doT (room X.cells) X.cd m ⟨22,a,b⟩ 1) e w':=by
 have htp:zT X.cd.funs ⟨22,a,b⟩=((1:Nat):Int):=by simp[zT]
 obtain⟨w1,hw1,HB,HJ,HTk,HHs,HF,HK0,HX⟩:=preDW h E hk0 hn hvb 22 a b htp
 have HE:=zh E
 generalize hM:AM.doT (room X.cells) X.cd m ⟨22,a,b⟩ 1=M
 have HM:=zh hM
 have Htp:=zh htp
 have HY:Hid (_/\_):=⟨hd,hz⟩
 clear hd hz
 clear hM h E hk0 hn hvb htp
 go_enter Tryz.func27,Tryz.ntmps27
 go_upto_region 1 with fail
 rw[<-hw1.out]
 refine rQ HK0.o (fun ops Hops=>?_)
 repeat
  (refine wQ ?_;apply xI;(·intro wx hwx;obtain⟨x0,x1,x2,x3,x4,x5,x6⟩:=HF.o wx hwx;go_simp <;> first | with_reducible rfl | with_reducible exact⟨rfl,rfl⟩ | exact HTk.o _ hwx);try go_simp)
 refine wpQuiet_nil ?_
 clear Hops ops
 intro w2 hw2
 have H2:Hid _:=HHs.o w2 hw2
 clear hw2
 go_wp2_with fail
 refine cM H2.o ?_
 rintro e w3 ⟨rfl,hw3⟩
 by_cases hlt:m.s.has < 1
 ·have hltI:((m.s.has:Nat):Int) < ((1:Nat):Int):=by omega
  have Q:Hid (zD X w g M (.returned (.int .i64 4)) w3):=by
   unfold Hid
   rw[<-HM.o]
   unfold AM.doT
   rw[Htp.o,if_pos hltI]
   exact zD.of 4 rfl (g':=g) (R':=R) ((HJ.o.kp hw3).k0c HX.o.1) (HB.o.1.trans (Mv.zk hw3))
  clear hw3 hlt
  go_wp2_with fail
  exact bR (by simp[results,Tryz.results27,go_sem]) Q.o
 have hltI:¬ (((m.s.has:Nat):Int) < ((1:Nat):Int)):=by omega
 have HM2:Hid ((if raisB m.D (m.s.top 0) then AM.raise X.cd {m with s:=m.s.drop 1} (m.s.top 0) else {m with kind:=4} : AM)=M):=by
  unfold Hid
  rw[<-HM.o]
  unfold AM.doT
  rw[Htp.o,if_neg hltI]
  simp only
  rw[if_neg (show ¬ ((22:Int)=6) by decide),if_neg (show ¬ ((22:Int)=25) by decide),if_neg (show ¬ ((22:Int)=14) by decide),if_neg (show ¬ ((22:Int)=18) by decide),if_neg (show ¬ ((22:Int)=19) by decide),if_neg (show ¬ ((22:Int)=20) by decide),if_neg (show ¬ ((22:Int)=21) by decide),if_neg (show ¬ ((22:Int)=15\/(22:Int)=16) by decide),if_neg (show ¬ ((22:Int)=17) by decide),if_pos True.intro]
  unfold raisB exnB
  rfl
 have hle:1<=m.s.vA.length:=by
  unfold St.has at hlt
  omega
 have Hle2:Hid (m.s.cur.vb+1<=m.s.vA.length):=by
  have:=HX.o.2.2.1
  unfold Hid
  unfold St.has at hlt
  omega
 have Hle:=zh hle
 have hk3:=hw3
 obtain⟨x0,x1,x2,x3,x4,x5,x6⟩:=HF.o w3 hw3
 have HJ3:Hid (_/\_/\_):=⟨HJ.o.kp hw3,HB.o.1.trans (Mv.zk hw3),hw3⟩
 clear hw3 hlt hle
 have hl0:0 < m.s.vA.length:=Hle.o
 have HT0:Hid (Calls Tryz.prog 49 #[.pointer (some ⟨X.mm,0,none⟩),.int .i64 0] w3 fun e w'=>e=.returned (.agg #[.bool (g.s.top 0).p,.int .i64 (g.s.top 0).n])/\Kp [] w3 w'):=zbc HJ3.o.1 0 (by rw[HX.o.2.2.2.1];exact hl0) w3 kr
 have HI:Hid (_/\_):=⟨HJ3.o.1.top 0 hl0,HJ3.o.1.topwf 0 hl0⟩
 have hlt0:thK m.D (m.s.top 0) 0=true->0 < lenA m.D (m.s.top 0).n:=fun e=>by
  obtain⟨_,t,h2,h3⟩:=zat e
  have:=(HY.o.1 _ _ h2).b h3
  unfold lenA
  rw[h2]
  exact this.1
 have HR:Hid _:=fun wx (hx:Kp [] w3 wx)=>zn3 (HJ3.o.1.kp hx) HE.o.ex (g.s.top 0) (m.s.top 0) HI.o.1 hlt0 wx kr
 have Hl0:=zh hlt0
 clear hk3 hlt0 hl0
 generalize g.s.top 0=c0 at *
 obtain⟨ap,an⟩:=c0
 simp only at HT0 HR
 go_wp2_with fail
 refine cM HT0.o ?_
 rintro e w4 ⟨rfl,hw4⟩
 have HK5:Hid (Kp [] w3 (w4.alloc (.cells #[.bool ap,.int .i64 an] 67))):=hw4.trans kA
 have Hb5:Hid ((w4.alloc (.cells #[.bool ap,.int .i64 an] 67)).heap[w4.heap.size]? = some (.cells #[.bool ap,.int .i64 an] 67)):=zab w4 _
 have Ho5:Hid (Off X (w4.alloc (.cells #[.bool ap,.int .i64 an] 67)) g w4.heap.size):=(HJ3.o.1.kp hw4).off (Nat.le_refl _) (by simp)
 have H5:Hid _:=HR.o _ HK5.o
 clear x0 x1 x2 x3 x4 x5 x6 hw4
 cases hr:raisB m.D (m.s.top 0) with
 | false=>
  rw[hr] at H5
  rw[hr,if_neg Bool.false_ne_true] at HM2
  go_wp2_with fail
  refine cM H5.o ?_
  rintro e w6 ⟨rfl,hw6⟩
  have Q:Hid (zD X w g M (.returned (.int .i64 4)) w6):=by
   unfold Hid
   rw[<-HM2.o]
   exact zD.of 4 rfl (g':=g) (R':=R) ((HJ3.o.1.kp (HK5.o.trans hw6)).k0c HX.o.1) (HJ3.o.2.1.trans (Mv.zk (HK5.o.trans hw6)))
  clear hr hw6
  go_wp2_with fail
  exact bR (by simp[results,Tryz.results27,go_sem]) Q.o
 | true=>
  rw[hr] at H5
  rw[hr,if_pos rfl] at HM2
  have Hr:=zh hr
  clear hr
  go_wp2_with fail
  refine cM H5.o ?_
  rintro e w6 ⟨rfl,hw6⟩
  have hk6:=HK5.o.trans hw6
  have HD:Hid _:=zba (HJ3.o.1.kp hk6) 1 Hle.o
  have Hm6:Hid _:=HJ3.o.2.1.trans (Mv.zk hk6)
  have Hb6:Hid (w6.heap[w4.heap.size]? = some (.cells #[.bool ap,.int .i64 an] 67)/\Off X w6 g w4.heap.size):=⟨zad Hb5.o hw6,lL Ho5.o.1 hw6.size,Ho5.o.2⟩
  clear hw6 hk6
  go_wp2_with fail
  refine cM HD.o ?_
  rintro e w7 ⟨rfl,g7,hp7⟩
  obtain⟨-,hkb⟩:=Hb6.o.2.mv hp7.mv
  obtain⟨f0,f1,-,-,f2⟩:=zaa (hkb.trans Hb6.o.1)
  have hrz:=Hr.o
  unfold raisB at hrz
  simp only[Bool.and_eq_true] at hrz
  obtain⟨hr1,hr2⟩:=hrz
  obtain⟨hvp,-⟩:=zat hr1
  have HZ:Hid _:=zji hp7.j HX.o.1 HE.o.ex HE.o.tx (HY.o.2 Hle2.o) ⟨ap,an⟩ (m.s.top 0) HI.o.1 HI.o.2 ⟨hvp,Hl0.o hr1⟩ hr2 (fun hp=>by
   unfold exnB at hr2
   rw[if_pos hp] at hr2
   obtain⟨_,t,h2,h3⟩:=zat hr2
   obtain⟨n,e1,e2,e3,_⟩:=(HY.o.1 _ _ h2).e h3
   have e4:getA m.D (getA m.D (m.s.top 0).n 0).n 0=num n:=by
    unfold getA at h2 ⊢
    rw[h2]
    simp[e1]
   have e5:0 < lenA m.D (getA m.D (m.s.top 0).n 0).n:=by
    unfold lenA
    rw[h2]
    simp[e1]
   refine⟨e5,?_,?_,?_⟩ <;> simp only
   ·rw[e4];rfl
   ·rw[e4];exact e2
   ·rw[e4];exact e3)
  rw[HM2.o] at HZ
  simp only at HZ
  have Hm7:Hid _:=Hm6.o.trans hp7.mv
  clear hp7 hkb hr1 hr2 hvp
  go_wp2_with fail
  refine cM HZ.o ?_
  intro e w10 q0
  have q:=q0.from Hm7.o
  clear q0 f0 f1 f2
  cases q with
  | mk w10 g10 R10 hJ10 hm10=>
   have Q:Hid (zD X w g M (.returned (.int .i64 M.kind)) w10):=.mk w10 g10 R10 hJ10 hm10
   clear hJ10 hm10
   generalize M.kind=kd at *
   go_wp2_with fail
   exact bR (by simp[results,Tryz.results27,go_sem]) Q.o
end
end Go.Proofs.YtkcmachfagcnaaaGreatDoor
