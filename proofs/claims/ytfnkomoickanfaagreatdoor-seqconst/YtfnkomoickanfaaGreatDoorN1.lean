/- Own. -/
import Derived.Test.YtfnkomoickanfaaGreatDoorEq
set_option linter.unusedVariables false
set_option linter.unusedSimpArgs false
set_option maxHeartbeats 8000000
set_option maxRecDepth 100000
namespace Go.Proofs.YtfnkomoickanfaaGreatDoor
open Go.RowKit
def pss(l:List (List Int))(f:Nat→Rat)(x:Nat):Nat→Rat
 |0=>0
 |j+1=>pss l f x j+((evz (x:Int) (gt l j):Int):Rat)*f (x+j)
structure VaI(w0 wr:World)(base gs B T E D Q:Nat)(l:List (List Int))(h:Hdr)(wv v:Value)(rs:List Rq)(f:Nat→Rat)(k g4:Nat):Prop where
 rs:RS wr base gs B T 4 E D Q l h wv v rs ((List.range k).map f)
 rh:wr.heap[g4]?=some (.cells #[.bool false,.slice none 0 0,.bool false,.slice none 0 0] 45 (0,0))
 lo:base≤g4
 ne:gs≠g4
 n4:v.ownBlock≠some g4
 bw:Below base w0 wr
 sz:base≤w0.heap.size
theorem RS.later{w w':World}{base gs B T N E D Q:Nat}{l:List (List Int)}{h:Hdr}{wv v:Value}{rs:List Rq}{zs:List Rat}(H:RS w base gs B T N E D Q l h wv v rs zs)(hb:Below w.heap.size w w')(hs:base≤w.heap.size):RS w' base gs B T N E D Q l h wv v rs zs:=
 ⟨(hb.block gs (Array.getElem?_eq_some_iff.1 H.bx).1).trans H.bx,(bK (bJ N E)).below H.op (Nat.le_trans H.T hs) hb,H.T,H.gb,H.lw.below (cU Q) hb,H.no⟩
theorem VaI.later{w0 w w':World}{base gs B T E D Q:Nat}{l:List (List Int)}{h:Hdr}{wv v:Value}{rs:List Rq}{f:Nat→Rat}{k g4:Nat}(H:VaI w0 w base gs B T E D Q l h wv v rs f k g4)(hb:Below w.heap.size w w'):VaI w0 w' base gs B T E D Q l h wv v rs f k g4:=by
 have hs:=Nat.le_trans H.sz H.bw.size
 exact⟨H.rs.later hb hs,(hb.block g4 (Array.getElem?_eq_some_iff.1 H.rh).1).trans H.rh,H.lo,H.ne,H.n4,H.bw.trans (hb.mono hs),H.sz⟩
theorem jZ{w:World}{N:Nat}{z:Int}{s:Bool}{p:Option Addr}{n g:Nat}(h:RV w N z s p n)(hc:∀(o:Nat) (y:Int),w.cell? ⟨g,o,none⟩≠some (.int .i64 y)):0<n→Off g p:=fun hn a ha hg=>by
 obtain⟨ds,k,-⟩:=h
 obtain⟨b,o,hp,hcl⟩:=k.rd (by rw[k.len];exact hn)
 rw[hp] at ha
 cases ha
 simp only at hg
 subst hg
 exact hc _ _ (hcl 0 (by rw[k.len];exact hn))
theorem zc{w:World}{N:Nat}{z:Int}{s:Bool}{p:Option Addr}{n g o:Nat}(h:RV w N z s p n)(ho:0<n→Off g p)(u:Value):RV (w.setCell ⟨g,o,none⟩ u) N z s p n:=by
 obtain⟨ds,k,h2⟩:=h
 refine⟨ds,⟨k.len,fun hx=>?_,k.u,k.nrm,k.sg,k.sml⟩,h2⟩
 exact(k.rd.ah ⟨g,o,none⟩ u (ho (by rw[k.len] at hx;exact hx))) hx
theorem xX{w:World}{Q:Nat}{z:Rat}{e:Rq}{g o:Nat}(h:EM Q w z e)(hc:∀(o:Nat) (y:Int),w.cell? ⟨g,o,none⟩≠some (.int .i64 y))(u:Value):EM Q (w.setCell ⟨g,o,none⟩ u) z e:=
 ⟨⟨zc h.1.num (jZ h.1.num hc) u,zc h.1.den (jZ h.1.den hc) u⟩,h.2⟩
theorem D9{w:World}{g:Nat}{a b c:Value}{t:TypeId}(h:w.heap[g]?=some (.cells #[a,b,c] t (0,0)))(ha:∀y,a≠.int .i64 y)(hb:∀y,b≠.int .i64 y)(hc:∀y,c≠.int .i64 y):∀(o:Nat) (y:Int),w.cell? ⟨g,o,none⟩≠some (.int .i64 y):=fun o y he=>by
 rw[cell_of_row w g o _ t _ h] at he
 match o with
 |0=>exact ha y (Option.some.inj he)
 |1=>exact hb y (Option.some.inj he)
 |2=>exact hc y (Option.some.inj he)
 |o+3=>simp at he
theorem VaI.app{w wr wN w3:World}{base gs B T E D Q:Nat}{l:List (List Int)}{h:Hdr}{wv v:Value}{rs:List Rq}{f:Nat→Rat}{k g4 g cap:Nat}{o:Obj}{u:Rq}(H:VaI w wr base gs B T E D Q l h wv v rs f k g4)(hwv:∀y,wv≠.int .i64 y)(hb:Below wr.heap.size wr wN)(hE:EM Q wN (f k) u)(hF:az wr.heap.size u.p)(hF':az wr.heap.size u.q)
  (hown:w3.ownsRow base 45 4 (.slice (some ⟨g,0,none⟩) (k+1) cap) (k+1) (frl rs++[.bool u.s,.slice u.p u.n u.c,.bool u.t,.slice u.q u.m u.d])) (hgrow:(wN.alloc o).grownBy w3 v.ownBlock) (hat:v.ownBlock=some g∨g=(wN.alloc o).heap.size):
  VaI w (w3.setCell ⟨gs,2,none⟩ (.slice (some ⟨g,0,none⟩) (k+1) cap)) base gs B T E D Q l h wv (.slice (some ⟨g,0,none⟩) (k+1) cap) (rs++[u]) f (k+1) g4:=by
 have hs:=Nat.le_trans H.sz H.bw.size
 have hal:=af (o:=o) (Below.refl wN.heap.size wN)
 have hb2:=ae hb hal
 have H1:=H.later hb2
 have hgl:=(Array.getElem?_eq_some_iff.1 H1.rs.bx).1
 have h4l:=(Array.getElem?_eq_some_iff.1 H1.rh).1
 have own0:=H1.rs.lw.own.lt
 have hgs:g≠gs:=fun e=>by
  rcases hat with h1|h1
  ·exact H.rs.no (by rw[h1,e])
  ·omega
 have hg4:g≠g4:=fun e=>by
  rcases hat with h1|h1
  ·exact H.n4 (by rw[h1,e])
  ·omega
 have bx3:w3.heap[gs]?=some (.cells #[.slice h.p h.n h.c,wv,v] 81 (0,0)):=(hgrow.block gs hgl (fun e=>H.rs.no e.symm)).trans H1.rs.bx
 have hvn:∀y,v≠.int .i64 y:=fun y e=>by
  obtain⟨q,c,h1,-⟩:=kz H.rs.lw.own
  rw[h1] at e
  cases e
 have no3:=D9 bx3 (fun y e=>by cases e) hwv hvn
 have hlen:rs.length=k:=by have:=H.rs.lw.zl;simpa using this.symm
 have hl:=LW.app (e:=u) (cU Q) hlen H.rs.lw hb hE ⟨fun _ a ha=>.inr (hF a ha),fun _ a ha=>.inr (hF' a ha)⟩ hown hgrow hat
 refine⟨⟨?_,?_,H.rs.T,H.rs.gb,?_,fun e=>hgs (Option.some.inj e)⟩,?_,H.lo,H.ne,fun e=>hg4 (Option.some.inj e),?_,H.sz⟩
 ·exact heap_setCell_same w3 gs 2 _ _ _ bx3
 ·refine qt (E:=EY 4 E) (fun a b c=>qq 4 E a b c) H.rs.op (Nat.le_trans H.rs.T hs) fun b h1 h2=>?_
  have hT:=H.rs.T
  have hgb:=H.rs.gb
  have hz:=hb2.size
  rw[heap_setCell_other _ _ _ _ (by show b≠gs;omega),hgrow.block b (by omega) (fun e=>by have:=own0 b e.symm;omega)]
  exact hb2.block b (by omega)
 ·have e1:(List.range (k+1)).map f=(List.range k).map f++[f k]:=by rw[List.range_succ,List.map_append];rfl
  rw[e1]
  exact⟨ownsRow_setCell_other hl.own (a:=⟨gs,2,none⟩) (fun e=>hgs (Option.some.inj e)) _,hl.zl,fun j hj=>xX (hl.ev j hj) no3 _,hl.off⟩
 ·rw[heap_setCell_other _ _ _ _ (by show g4≠gs;exact fun e=>H.ne e.symm)]
  exact(hgrow.block g4 h4l (fun e=>H.n4 e.symm)).trans H1.rh
 ·exact(H1.bw.grown hgrow (Nat.le_trans hs hb2.size) (fun q hq=>(own0 q hq).1)).setCell (p:=⟨gs,2,none⟩) H.rs.gb _
structure VaS(w wr:World)(base gs B T E D Q S:Nat)(l:List (List Int))(h:Hdr)(wv v:Value)(rs:List Rq)(f:Nat→Rat)(k g4 x i g7:Nat)(s:Bool)(p:Option Addr)(a:Nat)(t:Bool)(q:Option Addr)(b:Nat):Prop where
 va:VaI w wr base gs B T E D Q l h wv v rs f k g4
 b7:wr.heap[g7]?=some (.cells #[.bool s,.slice p a a,.bool t,.slice q b b] 45 (0,0))
 v7:MQ wr S s p a t q b (pss l f x i)
 x7:base≤g7
 y7:v.ownBlock≠some g7
 z7:g7≠g4
theorem MQ.tight{w:World}{K L:Nat}{s t:Bool}{p q:Option Addr}{n m:Nat}{r:Rat}(h:MQ w K s p n t q m r)(hs:Sz r L):MQ w L s p n t q m r:=⟨h.num.tight hs.1,h.den.tight hs.2⟩
theorem vL{S:Nat}(hS:1≤S):Sz 0 S:=(show Sz 0 1 from⟨by decide,by decide⟩).up hS
theorem VaS.later{w w1 w2:World}{base gs B T E D Q S:Nat}{l:List (List Int)}{h:Hdr}{wv v:Value}{rs:List Rq}{f:Nat→Rat}{k g4 x i g7:Nat}{s:Bool}{p:Option Addr}{a:Nat}{t:Bool}{q:Option Addr}{b:Nat}(H:VaS w w1 base gs B T E D Q S l h wv v rs f k g4 x i g7 s p a t q b)(hb:Below w1.heap.size w1 w2):VaS w w2 base gs B T E D Q S l h wv v rs f k g4 x i g7 s p a t q b:=
 ⟨H.va.later hb,(hb.block g7 (Array.getElem?_eq_some_iff.1 H.b7).1).trans H.b7,H.v7.below hb,H.x7,H.y7,H.z7⟩
theorem su{f:Nat→Rat}{k j:Nat}(hj:j<k):gq ((List.range k).map f) j=f j:=by simp[gq,hj]
def Ax.mq(K:Nat)(r:Rat):Ax:=⟨fun _ v w=>∃s p n t q m,v=.agg #[.bool s,.slice p n n,.bool t,.slice q m m]∧MQ w K s p n t q m r,fun⟨s,p,n,t,q,m,a,h⟩ hb=>⟨s,p,n,t,q,m,a,h.below hb⟩,fun h _=>h,fun h _=>h⟩
theorem Bk{J:FuncId}{args:Array Value}{v:World}{r:Rat}{K:Nat}{X:Nat→Prop}(h:Calls Tryz.prog J args v (MP r K v)):Calls Tryz.prog J args v fun e w'=>∃u,e=.returned u∧(Ax.mq K r).is X u w'∧Below v.heap.size v w':=by
 refine h.mono ?_
 rintro e w' ⟨s,p,n,t,q,m,rfl,h1,-,-,h2⟩
 exact⟨_,rfl,⟨s,p,n,t,q,m,rfl,h1⟩,h2⟩
theorem DX{J:FuncId}{args:Array Value}{v:World}{z:Int}{K:Nat}{s:Bool}{p:Option Addr}{n:Nat}{X:Nat→Prop}(h:Calls Tryz.prog J args v (IP z K s p n v)):Calls Tryz.prog J args v fun e w'=>∃u,e=.returned u∧(Ax.mq K (z:Rat)).is X u w'∧Below v.heap.size v w':=by
 refine h.mono ?_
 rintro e w' ⟨t,q,m,rfl,h1,-,h2⟩
 exact⟨_,rfl,⟨s,p,n,t,q,m,rfl,h1⟩,h2⟩
theorem jW{w:World}{g:Nat}{s t:Bool}{p q:Option Addr}{a b c d:Nat}{ty:TypeId}(h:w.heap[g]?=some (.cells #[.bool s,.slice p a c,.bool t,.slice q b d] ty (0,0))):∀(o:Nat) (y:Int),w.cell? ⟨g,o,none⟩≠some (.int .i64 y):=fun o y he=>by
 rw[cell_of_row w g o _ ty _ h] at he
 match o with
 |0=>cases he
 |1=>cases he
 |2=>cases he
 |3=>cases he
 |o+4=>simp at he
theorem VaI.pU{w w1:World}{base gs B T E D Q:Nat}{l:List (List Int)}{h:Hdr}{wv v:Value}{rs:List Rq}{f:Nat→Rat}{k g4 g o:Nat}(H:VaI w w1 base gs B T E D Q l h wv v rs f k g4)(hg:base≤g)(n1:g≠gs)(n2:g≠g4)(n3:v.ownBlock≠some g)(hc:∀(o:Nat) (y:Int),w1.cell? ⟨g,o,none⟩≠some (.int .i64 y))(u:Value):VaI w (w1.setCell ⟨g,o,none⟩ u) base gs B T E D Q l h wv v rs f k g4:=by
 have hs:=Nat.le_trans H.sz H.bw.size
 have oth:∀b,b≠g→(w1.setCell ⟨g,o,none⟩ u).heap[b]?=w1.heap[b]?:=fun b hb=>heap_setCell_other _ _ _ _ hb
 refine⟨⟨(oth gs (fun e=>n1 e.symm)).trans H.rs.bx,?_,H.rs.T,H.rs.gb,?_,H.rs.no⟩,(oth g4 (fun e=>n2 e.symm)).trans H.rh,H.lo,H.ne,H.n4,H.bw.setCell (p:=⟨g,o,none⟩) hg _,H.sz⟩
 ·exact qt (E:=EY 4 E) (fun a b c=>qq 4 E a b c) H.rs.op (Nat.le_trans H.rs.T hs) fun b h1 h2=>oth b (by have:=H.rs.T;omega)
 ·have hl:=H.rs.lw
  exact⟨ownsRow_setCell_other hl.own (a:=⟨g,o,none⟩) n3 _,hl.zl,fun j hj=>xX (hl.ev j hj) hc _,hl.off⟩
theorem VaS.put{w w1:World}{base gs B T E D Q S:Nat}{l:List (List Int)}{h:Hdr}{wv v:Value}{rs:List Rq}{f:Nat→Rat}{k g4 x i g7:Nat}{s s':Bool}{p p':Option Addr}{a a':Nat}{t t':Bool}{q q':Option Addr}{b b':Nat}(H:VaS w w1 base gs B T E D Q S l h wv v rs f k g4 x i g7 s p a t q b)(hM:MQ w1 S s' p' a' t' q' b' (pss l f x (i+1))):
  VaS w ((((w1.setCell ⟨g7,0,none⟩ (.bool s')).setCell ⟨g7,1,none⟩ (.slice p' a' a')).setCell ⟨g7,2,none⟩ (.bool t')).setCell ⟨g7,3,none⟩ (.slice q' b' b')) base gs B T E D Q S l h wv v rs f k g4 x (i+1) g7 s' p' a' t' q' b':=by
 have n1:g7≠gs:=fun e=>by
  have h1:=H.b7
  rw[e,H.va.rs.bx] at h1
  cases h1
 have e1:=heap_setCell_same w1 g7 0 _ _ (.bool s') H.b7
 have e2:=heap_setCell_same _ g7 1 _ _ (.slice p' a' a') e1
 have e3:=heap_setCell_same _ g7 2 _ _ (.bool t') e2
 have e4:=heap_setCell_same _ g7 3 _ _ (.slice q' b' b') e3
 have k0:=jW H.b7
 have k1:=jW e1
 have k2:=jW e2
 have k3:=jW e3
 refine⟨(((H.va.pU H.x7 n1 H.z7 H.y7 k0 _).pU H.x7 n1 H.z7 H.y7 k1 _).pU H.x7 n1 H.z7 H.y7 k2 _).pU H.x7 n1 H.z7 H.y7 k3 _,e4,⟨?_,?_⟩,H.x7,H.y7,H.z7⟩
 ·exact hM.num.bq (jZ hM.num k0) _ _ _ _
 ·exact hM.den.bq (jZ hM.den k0) _ _ _ _
theorem pN{w:World}{K:Nat}{s t:Bool}{p q:Option Addr}{n m:Nat}{r:Rat}(h:MQ w K s p n t q m r):
  Calls Tryz.prog 47 #[.agg #[.bool s,.slice p n n,.bool t,.slice q m m]] w fun e w'=>∃s1,e=.returned (.agg #[.bool s1,.slice p n n,.bool t,.slice q m m])∧MQ w' K s1 p n t q m (-r)∧Below w.heap.size w w':=by
 have o1:Hid (0<n→Off (w.heap.size+1) p):=h.num.off (by omega)
 have o2:Hid (0<m→Off (w.heap.size+1) q):=h.den.off (by omega)
 go_enter Tryz.func47,Tryz.ntmps47
 go_wp2_with fail
 have hA0:Bq ((w.alloc (.cells #[.bool s,.slice p n n,.bool t,.slice q m m] 45)).alloc (.cells #[.bool false,.slice none 0 0,.bool false,.slice none 0 0] 45)) w.heap.size (.bool s) (.slice p n n) (.bool t) (.slice q m m):=(Bq.new _ _ _ _ _ rfl).alloc _
 have hR0:Bq ((w.alloc (.cells #[.bool s,.slice p n n,.bool t,.slice q m m] 45)).alloc (.cells #[.bool false,.slice none 0 0,.bool false,.slice none 0 0] 45)) (w.heap.size+1) (.bool false) (.slice none 0 0) (.bool false) (.slice none 0 0):=Bq.new _ _ _ _ _ (by simp)
 have hW:Below w.heap.size w ((w.alloc (.cells #[.bool s,.slice p n n,.bool t,.slice q m m] 45)).alloc (.cells #[.bool false,.slice none 0 0,.bool false,.slice none 0 0] 45)):=((Below.refl _ _).alloc (Nat.le_refl _) _).alloc (by simp) _
 generalize (w.alloc (.cells #[.bool s,.slice p n n,.bool t,.slice q m m] 45)).alloc (.cells #[.bool false,.slice none 0 0,.bool false,.slice none 0 0] 45)=W at *
 have k:=h.below hW
 have nA:Hid (w.heap.size≠w.heap.size+1):=(by omega:w.heap.size≠w.heap.size+1)
 obtain⟨a0,a1,a2,a3,-,-,-,-⟩:=hA0
 go_region_held3 (fun w'=>w'.cell? ⟨w.heap.size,0,none⟩=some (.bool s)∧w'.cell? ⟨w.heap.size,1,none⟩=some (.slice p n n)∧w'.cell? ⟨w.heap.size,2,none⟩=some (.bool t)∧w'.cell? ⟨w.heap.size,3,none⟩=some (.slice q m m)) (first|with_reducible exact⟨a0,a1,a2,a3⟩|with_reducible exact bB ⟨a0,a1,a2,a3⟩ hV1|with_reducible exact sB ⟨a0,a1,a2,a3⟩ hV1 nA|(simp[go_sem, *];done))
  (first
   |(go_at_call 85;refine(DD k.num.drew).mono ?_;rintro e v1 ⟨s1,rfl,hr1,hv1⟩;have hV1:=aC hv1;obtain⟨r0,r1,r2,r3,f0,f1,f2,f3⟩:=hR0.later hV1))
 clear a0 a1 a2 a3
 go_wp2
 refine bodyPost_ret (v:=.agg #[.bool s1,.slice p n n,.bool t,.slice q m m]) (by simp[results,Tryz.results47,go_sem,r0,r1,r2,r3]) rfl ⟨s1,rfl,⟨?_,?_⟩,?_⟩
 ·rw[Rat.neg_num];exact hr1.bq o1.out _ _ _ _
 ·rw[Rat.neg_den];exact(k.den.below hV1).bq o2.out _ _ _ _
 ·exact cL (ae hW hV1) (by omega) _ _ _ _
abbrev dU(w:World)(g7 g10:Nat)(s:Bool)(p:Option Addr)(a:Nat)(t:Bool)(q:Option Addr)(b:Nat)(s':Bool)(p':Option Addr)(a':Nat)(t':Bool)(q':Option Addr)(b':Nat):Prop:=
 w.cell? ⟨g7,0,none⟩=some (.bool s)∧w.cell? ⟨g7,1,none⟩=some (.slice p a a)∧w.cell? ⟨g7,2,none⟩=some (.bool t)∧w.cell? ⟨g7,3,none⟩=some (.slice q b b)∧w.cell? ⟨g10,0,none⟩=some (.bool s')∧w.cell? ⟨g10,1,none⟩=some (.slice p' a' a')∧w.cell? ⟨g10,2,none⟩=some (.bool t')∧w.cell? ⟨g10,3,none⟩=some (.slice q' b' b')
theorem dU.below{w w1:World}{g7 g10:Nat}{s:Bool}{p:Option Addr}{a:Nat}{t:Bool}{q:Option Addr}{b:Nat}{s':Bool}{p':Option Addr}{a':Nat}{t':Bool}{q':Option Addr}{b':Nat}(h:dU w g7 g10 s p a t q b s' p' a' t' q' b')(hb:Below w.heap.size w w1):dU w1 g7 g10 s p a t q b s' p' a' t' q' b':=
 ⟨cell_later hb h.1,cell_later hb h.2.1,cell_later hb h.2.2.1,cell_later hb h.2.2.2.1,cell_later hb h.2.2.2.2.1,cell_later hb h.2.2.2.2.2.1,cell_later hb h.2.2.2.2.2.2.1,cell_later hb h.2.2.2.2.2.2.2⟩
theorem dU.grown{w w1 w2:World}{row:Option Nat}{g7 g10:Nat}{s:Bool}{p:Option Addr}{a:Nat}{t:Bool}{q:Option Addr}{b:Nat}{s':Bool}{p':Option Addr}{a':Nat}{t':Bool}{q':Option Addr}{b':Nat}(h:dU w g7 g10 s p a t q b s' p' a' t' q' b')(hb:Below w.heap.size w w1)(hg:w1.grownBy w2 row)(n7:row≠some g7)(n10:row≠some g10):dU w2 g7 g10 s p a t q b s' p' a' t' q' b':=by
 have h1:=h.below hb
 have l7:=block_lt_of_cell h1.1
 have l10:=block_lt_of_cell h1.2.2.2.2.1
 have f7:∀o,w2.cell? ⟨g7,o,none⟩=w1.cell? ⟨g7,o,none⟩:=fun o=>hg.cell_far ⟨g7,o,none⟩ l7 fun e=>n7 e.symm
 have f10:∀o,w2.cell? ⟨g10,o,none⟩=w1.cell? ⟨g10,o,none⟩:=fun o=>hg.cell_far ⟨g10,o,none⟩ l10 fun e=>n10 e.symm
 unfold dU at h1 ⊢
 rw[f7,f7,f7,f7,f10,f10,f10,f10]
 exact h1
def lY(w:World)(gs:Nat):Nat:=match w.cell? ⟨gs,2,none⟩ with|some (.slice _ n _)=>n|_=>0
theorem dU.set{w:World}{g7 g10 gs:Nat}{s:Bool}{p:Option Addr}{a:Nat}{t:Bool}{q:Option Addr}{b:Nat}{s':Bool}{p':Option Addr}{a':Nat}{t':Bool}{q':Option Addr}{b':Nat}{u:Value}(h:dU w g7 g10 s p a t q b s' p' a' t' q' b')(n7:g7≠gs)(n10:g10≠gs):dU (w.setCell ⟨gs,2,none⟩ u) g7 g10 s p a t q b s' p' a' t' q' b':=by
 have f7:∀o,(w.setCell ⟨gs,2,none⟩ u).cell? ⟨g7,o,none⟩=w.cell? ⟨g7,o,none⟩:=fun o=>World.cell?_setCell_far w _ _ u (fun e=>n7 e.symm)
 have f10:∀o,(w.setCell ⟨gs,2,none⟩ u).cell? ⟨g10,o,none⟩=w.cell? ⟨g10,o,none⟩:=fun o=>World.cell?_setCell_far w _ _ u (fun e=>n10 e.symm)
 unfold dU at h ⊢
 rw[f7,f7,f7,f7,f10,f10,f10,f10]
 exact h
theorem mF{w wr:World}{base gs B T E D Q:Nat}{l:List (List Int)}{h:Hdr}{wv:Value}{q:Option Addr}{cap:Nat}{rs:List Rq}{f:Nat→Rat}{k g4 n vl:Nat}(hlt:n≥k)(hv:Hid (vl=k))(H:VaI w wr base gs B T E D Q l h wv (.slice q (k+1) cap) rs f (k+1) g4):n+1-lY wr gs<n+1-vl:=by
 have h1:lY wr gs=k+1:=by
  unfold lY
  rw[cell_of_row wr gs 2 _ _ _ H.rs.bx]
  rfl
 have h2:vl=k:=hv
 omega
theorem oQ{w W x1 x2 w3:World}{base gs B T E D Q S:Nat}{l:List (List Int)}{h:Hdr}{wv v:Value}{rs:List Rq}{f:Nat→Rat}{m n k g4 x r g7 g cap C:Nat}{s:Bool}{p:Option Addr}{a:Nat}{t:Bool}{q:Option Addr}{b:Nat}{s2 t1:Bool}{p1 q1:Option Addr}{n1 m1:Nat}{o:Obj}
  (hf:∀k,m≤k→k≤n→f k = -(pss l f (k-r) r/((evz ((k-r:Nat):Int) (gt l r):Int):Rat))) (hfs:∀k,k≤n→Sz (f k) Q) (hx:k=x+r) (hk:m≤k) (hlt:n≥k) (H:VaS w W base gs B T E D Q S l h wv v rs f k g4 x r g7 s p a t q b) (hb1:Below W.heap.size W x1) (hb2:Below x1.heap.size x1 x2) (hM:MQ x2 (S+C) s2 p1 n1 t1 q1 m1 (-(pss l f x r/((evz (x:Int) (gt l r):Int):Rat))))
  (hF1:az W.heap.size p1) (hF2:az W.heap.size q1) (hwv:∀y,wv≠.int .i64 y) (hown:w3.ownsRow base 45 4 (.slice (some ⟨g,0,none⟩) (k+1) cap) (k+1) (frl rs++[.bool s2,.slice p1 n1 n1,.bool t1,.slice q1 m1 m1])) (hgrow:(x2.alloc o).grownBy w3 v.ownBlock) (hat:v.ownBlock=some g∨g=(x2.alloc o).heap.size):
  VaI w (w3.setCell ⟨gs,2,none⟩ (.slice (some ⟨g,0,none⟩) (k+1) cap)) base gs B T E D Q l h wv (.slice (some ⟨g,0,none⟩) (k+1) cap) (rs++[⟨s2,p1,n1,n1,t1,q1,m1,m1⟩]) f (k+1) g4:=by
 have e1:-(pss l f x r/((evz (x:Int) (gt l r):Int):Rat))=f k:=by
  rw[hf k hk hlt,show k-r=x by omega]
 rw[e1] at hM
 exact H.va.app (u:=⟨s2,p1,n1,n1,t1,q1,m1,m1⟩) hwv (ae hb1 hb2) ⟨hM.tight (hfs k hlt),rfl,rfl⟩ hF1 hF2 hown hgrow hat
theorem km{w wr wN w3:World}{base gs B T E D Q:Nat}{l:List (List Int)}{h:Hdr}{wv v:Value}{rs:List Rq}{f:Nat→Rat}{k g4:Nat}{o:Obj}(H:VaI w wr base gs B T E D Q l h wv v rs f k g4)(hb:Below wr.heap.size wr wN)(hgrow:(wN.alloc o).grownBy w3 v.ownBlock):w3.cell? ⟨gs,2,none⟩=some v∧w3.frozen? ⟨gs,2,none⟩=false:=by
 have H1:=H.later (ae hb (af (o:=o) (Below.refl wN.heap.size wN)))
 have hgl:=(Array.getElem?_eq_some_iff.1 H1.rs.bx).1
 have bx3:w3.heap[gs]?=some (.cells #[.slice h.p h.n h.c,wv,v] 81 (0,0)):=(hgrow.block gs hgl (fun e=>H.rs.no e.symm)).trans H1.rs.bx
 exact⟨by rw[cell_of_row w3 gs 2 _ _ _ bx3];rfl,frozen_of_row w3 gs 2 _ _ bx3⟩
def VlP(z:Rat)(Q base:Nat)(w:World)(e:Ending)(w':World):Prop:=∃s p a t q b,e=.returned (.agg #[.bool s,.slice p a a,.bool t,.slice q b b])∧MQ w' Q s p a t q b z∧Below base w w'
theorem xg{w:World}{base gs B T E D Q C S r n m:Nat}{l:List (List Int)}{h:Hdr}{wv v:Value}{rs:List Rq}{f:Nat→Rat}(H:RS w base gs B T 4 E D Q l h wv v rs ((List.range m).map f))(hb:base≤w.heap.size)(hD:D≤100)(hl:l.length=r+1)(hr:r≤m)(hmn:m≤n+1)(hn:n≤5000)
  (hwv:∀y,wv≠.int .i64 y) (hE:E≤1000) (bd:∀i t,((gx (gt l i) t).natAbs:Int)<pw 2) (hc:2+E*2≤C) (hC:C≤30) (hQ:1≤Q) (hS:1≤S) (hsz:S+C+Q≤200)
  (hf:∀k,m≤k→k≤n→f k = -(pss l f (k-r) r/((evz ((k-r:Nat):Int) (gt l r):Int):Rat))) (hfs:∀k,k≤n→Sz (f k) Q) (hps:∀k j,r≤k→k≤n→j≤r→Sz (pss l f (k-r) j) S):
  Calls Tryz.prog 12 #[.pointer (some ⟨gs,0,none⟩),.int .i64 n] w (VlP (f n) Q base w):=by
 have HX:Hid (RS w base gs B T 4 E D Q l h wv v rs ((List.range m).map f)∧base≤w.heap.size):=⟨H,hb⟩
 clear H hb
 go_enter Tryz.func12,Tryz.ntmps12
 have c0:(w.alloc (.cells #[.bool false,.slice none 0 0,.bool false,.slice none 0 0] 45)).cell? ⟨gs,0,none⟩=some (.slice h.p h.n h.c):=by
  have h1:=(af (o:=.cells #[.bool false,.slice none 0 0,.bool false,.slice none 0 0] 45) (Below.refl w.heap.size w)).block gs (Array.getElem?_eq_some_iff.1 HX.out.1.bx).1
  rw[cell_of_row _ gs 0 _ _ _ (h1.trans HX.out.1.bx)]
  rfl
 have hHn:h.n=r+1:=by
  obtain⟨hs,kk⟩:=HX.out.1.op
  have:=kk.tl
  omega
 have e1:(h.n:Int)-1=(r:Int):=by omega
 have ho:=eC (w.alloc (.cells #[.bool false,.slice none 0 0,.bool false,.slice none 0 0] 45)) h.p h.n h.c (by omega)
 rw[e1] at ho
 have HI:Hid (VaI w (w.alloc (.cells #[.bool false,.slice none 0 0,.bool false,.slice none 0 0] 45)) base gs B T E D Q l h wv v rs f m w.heap.size):=by
  have hal:=af (o:=.cells #[.bool false,.slice none 0 0,.bool false,.slice none 0 0] 45) (Below.refl w.heap.size w)
  have hlt:=(Array.getElem?_eq_some_iff.1 HX.out.1.bx).1
  exact⟨HX.out.1.later hal HX.out.2,cV w _,HX.out.2,by omega,fun e=>by have:=(HX.out.1.lw.own.lt _ e).2;omega,hal.mono HX.out.2,HX.out.2⟩
 have HF:Hid ((∀k,m≤k→k≤n→f k = -(pss l f (k-r) r/((evz ((k-r:Nat):Int) (gt l r):Int):Rat)))∧(∀k,k≤n→Sz (f k) Q)∧(∀k j,r≤k→k≤n→j≤r→Sz (pss l f (k-r) j) S)∧(∀i t,((gx (gt l i) t).natAbs:Int)<pw 2)∧h.n=r+1∧∀y,wv≠.int .i64 y):=⟨hf,hfs,hps,bd,hHn,hwv⟩
 clear hf hfs hps bd HX hHn hwv
 go_wp2_with fail
 generalize w.alloc (.cells #[.bool false,.slice none 0 0,.bool false,.slice none 0 0] 45)=W at *
 go_fit ho
 rintro r0 w1 ⟨rfl,rfl⟩
 clear ho e1 c0
 go_wp2_with fail
 generalize w.heap.size=g4 at *
 go_loopw [6,7,8,9,10] (fun a6 a7 a8 a9 a10 wr=>∃(k:Nat) (v:Value) (rs:List Rq),m≤k∧k≤n+1∧Hid (VaI w wr base gs B T E D Q l h wv v rs f k g4)) (fun _ _ _ _ _ wr=>n+1-lY wr gs)
 case atStart=>exact⟨m,v,rs,Nat.le_refl _,hmn,HI.out⟩
 case round=>
  clear HI
  obtain⟨k,v,rs,hk,hkn,H⟩:=hrel
  obtain⟨q,cap,hv,hcap,hcm,-,-⟩:=kz H.out.rs.lw.own
  have hlen:rs.length=k:=by have:=H.out.rs.lw.zl;simpa using this.symm
  rw[hlen] at hv hcap
  subst hv
  have c0:wr.cell? ⟨gs,0,none⟩=some (.slice h.p h.n h.c):=by rw[cell_of_row wr gs 0 _ _ _ H.out.rs.bx];rfl
  have c2:wr.cell? ⟨gs,2,none⟩=some (.slice q k cap):=by rw[cell_of_row wr gs 2 _ _ _ H.out.rs.bx];rfl
  have hv0:Hid (lY wr gs=k):=by
   show lY wr gs=k
   unfold lY
   rw[c2]
  generalize lY wr gs=vl at *
  rcases Nat.lt_or_ge n k with hge|hlt
  ·obtain rfl:k=n+1:=by omega
   have i1:¬((n+1:Nat):Int)≤(n:Int):=by omega
   have i2:(n:Int)<((n+1:Nat):Int):=by omega
   obtain⟨q2,cap2,hv2,hWA⟩:=H.out.rs.lw.wa
   rw[hlen] at hv2 hWA
   obtain⟨b0,o0,hq0,hcl⟩:=hWA.rl (by rw[hWA.el];omega)
   cases hv2
   subst hq0
   obtain⟨y0,y1,y2,y3⟩:=hcl n (by rw[hWA.el];omega)
   have hev:=hWA.ev n (by omega)
   rw[su (by omega)] at hev
   generalize gr rs n=e at *
   rw[hev.2.1] at y1
   rw[hev.2.2] at y3
   have r0:wr.cell? ⟨g4,0,none⟩=some (.bool false):=by rw[cell_of_row wr g4 0 _ _ _ H.out.rh];rfl
   have r1:wr.cell? ⟨g4,1,none⟩=some (.slice none 0 0):=by rw[cell_of_row wr g4 1 _ _ _ H.out.rh];rfl
   have r2:wr.cell? ⟨g4,2,none⟩=some (.bool false):=by rw[cell_of_row wr g4 2 _ _ _ H.out.rh];rfl
   have r3:wr.cell? ⟨g4,3,none⟩=some (.slice none 0 0):=by rw[cell_of_row wr g4 3 _ _ _ H.out.rh];rfl
   have f0:=frozen_of_row wr g4 0 _ _ H.out.rh
   have f1:=frozen_of_row wr g4 1 _ _ H.out.rh
   have f2:=frozen_of_row wr g4 2 _ _ H.out.rh
   have f3:=frozen_of_row wr g4 3 _ _ H.out.rh
   have HR:Hid (MQ ((((wr.setCell ⟨g4,0,none⟩ (.bool e.s)).setCell ⟨g4,1,none⟩ (.slice e.p e.n e.n)).setCell ⟨g4,2,none⟩ (.bool e.t)).setCell ⟨g4,3,none⟩ (.slice e.q e.m e.m)) Q e.s e.p e.n e.t e.q e.m (f n)∧Below base w ((((wr.setCell ⟨g4,0,none⟩ (.bool e.s)).setCell ⟨g4,1,none⟩ (.slice e.p e.n e.n)).setCell ⟨g4,2,none⟩ (.bool e.t)).setCell ⟨g4,3,none⟩ (.slice e.q e.m e.m))):=
    ⟨⟨hev.1.num.bq (jZ hev.1.num (jW H.out.rh)) _ _ _ _,hev.1.den.bq (jZ hev.1.den (jW H.out.rh)) _ _ _ _⟩,cL H.out.bw H.out.lo _ _ _ _⟩
   clear hcl hWA hev H hv0
   go_wp2
   refine bodyPost_ret (v:=.agg #[.bool e.s,.slice e.p e.n e.n,.bool e.t,.slice e.q e.m e.m]) (by simp[results,Tryz.results12,go_sem,r0,r1,r2,r3]) rfl ⟨e.s,e.p,e.n,e.t,e.q,e.m,rfl,HR.out⟩
  ·have i1:(k:Int)≤(n:Int):=by omega
   obtain⟨x,hx⟩:∃x,k=x+r:=⟨k-r,by omega⟩
   have v1:IntKind.i64.wrap ((k:Int)-(r:Int))=(x:Int):=by rw[IntKind.wrap_i64];omega
   have HX:Hid (k=x+r):=hx
   clear hx
   go_wp2_with fail
   go_fit (D5 0 wr (by decide) (by decide))
   rintro r0 w2 ⟨s7,p7,n7,t7,q7,m7,rfl,hM7,-,-,hb2⟩
   have HI:Hid (VaS w (w2.alloc (.cells #[.bool s7,.slice p7 n7 n7,.bool t7,.slice q7 m7 m7] 45)) base gs B T E D Q S l h wv (.slice q k cap) rs f k g4 x 0 w2.heap.size s7 p7 n7 t7 q7 m7):=by
    have hal:=af (o:=.cells #[.bool s7,.slice p7 n7 n7,.bool t7,.slice q7 m7 m7] 45) (Below.refl w2.heap.size w2)
    have h9:=Nat.le_trans (Nat.le_trans H.out.sz H.out.bw.size) hb2.size
    refine⟨H.out.later (ae hb2 hal),cV w2 _,(hM7.below hal).tight ?_,h9,fun e=>?_,fun e=>?_⟩
    ·exact vL hS
    ·have:=(H.out.rs.lw.own.lt _ e).2
     have:=hb2.size
     omega
    ·have:=(Array.getElem?_eq_some_iff.1 H.out.rh).1
     have:=hb2.size
     omega
   clear hM7 hb2 c0 c2
   go_wp2_with fail
   generalize w2.alloc (.cells #[.bool s7,.slice p7 n7 n7,.bool t7,.slice q7 m7 m7] 45)=W2 at *
   generalize w2.heap.size=g7 at *
   have hk1:k≤5000:=by omega
   go_loopw [8,9] (fun a8 a9 wr=>∃(i:Nat) (s:Bool) (p:Option Addr) (a:Nat) (t:Bool) (q':Option Addr) (b:Nat),i≤r∧a8=.int .i64 i∧Hid (VaS w wr base gs B T E D Q S l h wv (.slice q k cap) rs f k g4 x i g7 s p a t q' b)) (fun a8 _ _=>r-(intOf a8).toNat)
   case atStart=>exact⟨0,s7,p7,n7,t7,q7,m7,Nat.zero_le _,by go_num,HI.out⟩
   case round=>
    clear HI
    obtain⟨i,s,p,a,t,q',b,hi,rfl,G⟩:=hrel
    rcases Nat.lt_or_ge i r with hir|hir
    ·have c0:wr.cell? ⟨gs,0,none⟩=some (.slice h.p h.n h.c):=by rw[cell_of_row wr gs 0 _ _ _ G.out.va.rs.bx];rfl
     have i2:(i:Int)<(r:Int):=by omega
     have hrD:r+1≤D:=by
      obtain⟨hs,kk⟩:=G.out.va.rs.op
      have h1:=kk.tl
      have h2:=kk.few
      omega
     have hxk:x≤5000:=by have:=HX.out;omega
     have hsz:=Nat.le_trans G.out.va.sz G.out.va.bw.size
     have hat:=rL (K:=2) (L:=1) G.out.va.rs.op (Nat.le_trans G.out.va.rs.T hsz) (by omega) i (by omega) (x:Int) (by omega) (by omega) hE (by decide) (HF.out.2.2.2.1 i) (by rw[show pw 1=4294967296 by decide];omega) (by omega) (by decide)
     go_wp2_with fail
     go_fit hat
     rintro r0 w5 ⟨u,rfl,hu,hb5⟩
     clear hat c0
     have hal:=af (o:=.cells #[.bool u.s,.slice u.p u.n u.c] 43) (Below.refl w5.heap.size w5)
     have hG:=G.out.later (ae hb5 hal)
     have hnew:=cV w5 (.cells #[.bool u.s,.slice u.p u.n u.c] 43)
     have hu:=hu.below hal
     have HG:Hid (VaS w (w5.alloc (.cells #[.bool u.s,.slice u.p u.n u.c] 43)) base gs B T E D Q S l h wv (.slice q k cap) rs f k g4 x i g7 s p a t q' b):=hG
     clear hal hG hb5 G
     go_wp2_with fail
     generalize w5.alloc (.cells #[.bool u.s,.slice u.p u.n u.c] 43)=W at *
     have q0:W.cell? ⟨w5.heap.size,0,none⟩=some (.bool u.s):=by rw[cell_of_row W _ 0 _ _ _ hnew];rfl
     have q1:W.cell? ⟨w5.heap.size,1,none⟩=some (.slice u.p u.n u.c):=by rw[cell_of_row W _ 1 _ _ _ hnew];rfl
     generalize w5.heap.size=g9 at *
     clear hnew
     have c2:W.cell? ⟨gs,2,none⟩=some (.slice q k cap):=by rw[cell_of_row W gs 2 _ _ _ HG.out.va.rs.bx];rfl
     have z0:W.cell? ⟨g7,0,none⟩=some (.bool s):=by rw[cell_of_row W g7 0 _ _ _ HG.out.b7];rfl
     have z1:W.cell? ⟨g7,1,none⟩=some (.slice p a a):=by rw[cell_of_row W g7 1 _ _ _ HG.out.b7];rfl
     have z2:W.cell? ⟨g7,2,none⟩=some (.bool t):=by rw[cell_of_row W g7 2 _ _ _ HG.out.b7];rfl
     have z3:W.cell? ⟨g7,3,none⟩=some (.slice q' b b):=by rw[cell_of_row W g7 3 _ _ _ HG.out.b7];rfl
     obtain⟨q2,cap2,hv2,hWA⟩:=HG.out.va.rs.lw.wa
     rw[hlen] at hv2 hWA
     obtain⟨b0,o0,hq0,hcl⟩:=hWA.rl (by rw[hWA.el];have:=HX.out;omega)
     cases hv2
     subst hq0
     obtain⟨y0,y1,y2,y3⟩:=hcl (x+i) (by rw[hWA.el];have:=HX.out;omega)
     have hev:=hWA.ev (x+i) (by have:=HX.out;omega)
     rw[su (by have:=HX.out;omega)] at hev
     have i3:(x:Int)+(i:Int)<(k:Int):=by have:=HX.out;omega
     have v2:IntKind.i64.wrap ((x:Int)+(i:Int))=(x:Int)+(i:Int):=by rw[IntKind.wrap_i64];omega
     have v4:((x:Int)+(i:Int)).toNat=x+i:=by omega
     have v5:(0:Int)≤(x:Int)+(i:Int):=by omega
     generalize gr rs (x+i)=e at *
     rw[hev.2.1] at y1
     rw[hev.2.2] at y3
     rw[hu.2] at q1
     have hu2:RV W (2*C) (evz (x:Int) (gt l i)) u.s u.p u.n:=(hu.wide (show 2*(2+E*(1+1))≤2*C by omega)).1
     clear hcl hWA
     refine tk 14 [(0,43),(1,44),(2,45),(3,46),(4,47),(5,48),(6,49),(7,50),(8,51),(9,52),(10,53),(11,54),(12,55),(13,56)] [] []
      [Ax.val (Value.agg #[Value.bool s,Value.slice p a a,Value.bool t,Value.slice q' b b]),Ax.val (Value.agg #[Value.bool u.s,Value.slice u.p u.n u.n]),Ax.mq C (((evz (↑x) (gt l i)):Int):Rat),Ax.val (Value.pointer (some {block:=gs,off:=0})),Ax.val (Value.pointer (some {block:=gs,off:=0})),Ax.val (Value.pointer (some {block:=gs,off:=2})),Ax.val (Value.slice (some {block:=b0,off:=o0}) k cap),Ax.val (Value.int IntKind.i64 ↑x),Ax.val (Value.int IntKind.i64 ↑i),Ax.val (Value.int IntKind.i64 (↑x + ↑i)),Ax.val (Value.pointer (some {block:=b0,off:=o0+(x+i)*4})),Ax.val (Value.agg #[Value.bool e.s,Value.slice e.p e.n e.n,Value.bool e.t,Value.slice e.q e.m e.m]),Ax.mq (C+Q) (((evz (↑x) (gt l i):Int):Rat)*f (x+i)),Ax.mq (S+(C+Q)+1) (pss l f x i+((evz (↑x) (gt l i):Int):Rat)*f (x+i))]
      (by kernel_rfl) (by kernel_rfl) (by kernel_rfl) trivial (by kernel_rfl) (by decide) (by decide) (by rfl) ?_ ?_
     ·refine⟨fun _=>?_,fun _=>?_,fun _=>?_,fun _=>?_,fun _=>?_,fun _=>?_,fun _=>?_,fun _=>?_,fun _=>?_,fun _=>?_,fun _=>?_,fun _=>?_,fun _=>?_,fun _=>?_,fun h=>absurd h (by decide),trivial⟩
      ·exact dp rfl fun X ρ v R=>by
        have e7:ρ (.tmp 7)=Value.pointer (some {block:=g7,off:=0}):=R.old 7 (by decide)
        have x0:=cell_later R.b z0
        have x1:=cell_later R.b z1
        have x2:=cell_later R.b z2
        have x3:=cell_later R.b z3
        exact⟨_,by simp[execOp,go_sem,e7,x0,x1,x2,x3],rfl⟩
      ·exact dp rfl fun X ρ v R=>by
        have e9:ρ (.tmp 9)=Value.pointer (some {block:=g9,off:=0}):=R.old 9 (by decide)
        have x0:=cell_later R.b q0
        have x1:=cell_later R.b q1
        exact⟨_,by simp[execOp,go_sem,e9,x0,x1],rfl⟩
      ·exact pK 19 rfl fun X ρ v R=>by
        have e44:ρ (.tmp 44)=Value.agg #[Value.bool u.s,Value.slice u.p u.n u.n]:=R.dep 1 44 (by decide) rfl rfl
        exact⟨_,by simp[execOp,go_sem,e44,R.fn],DX (s_ (K:=C) (hu2.below R.b) (by omega))⟩
      ·exact dp rfl fun X ρ v R=>⟨_,by simp[execOp,go_sem],R.old 0 (by decide)⟩
      ·exact dp rfl fun X ρ v R=>by
        have e46:ρ (.tmp 46)=Value.pointer (some {block:=gs,off:=0}):=R.dep 3 46 (by decide) rfl rfl
        exact⟨_,by simp[execOp,go_sem,e46],rfl⟩
      ·exact dp rfl fun X ρ v R=>by
        have e47:ρ (.tmp 47)=Value.pointer (some {block:=gs,off:=0}):=R.dep 4 47 (by decide) rfl rfl
        exact⟨_,by simp[execOp,go_sem,e47],rfl⟩
      ·exact dp rfl fun X ρ v R=>by
        have e48:ρ (.tmp 48)=Value.pointer (some {block:=gs,off:=2}):=R.dep 5 48 (by decide) rfl rfl
        have x0:=cell_later R.b c2
        exact⟨_,by simp[execOp,go_sem,e48,x0],rfl⟩
      ·exact dp rfl fun X ρ v R=>⟨_,by simp[execOp,go_sem],R.old 6 (by decide)⟩
      ·exact dp rfl fun X ρ v R=>⟨_,by simp[execOp,go_sem],R.old 8 (by decide)⟩
      ·exact dp rfl fun X ρ v R=>by
        have e50:ρ (.tmp 50)=Value.int IntKind.i64 ↑x:=R.dep 7 50 (by decide) rfl rfl
        have e51:ρ (.tmp 51)=Value.int IntKind.i64 ↑i:=R.dep 8 51 (by decide) rfl rfl
        exact⟨_,by simp[execOp,go_sem,e50,e51,v2],rfl⟩
      ·exact dp rfl fun X ρ v R=>by
        have e49:ρ (.tmp 49)=Value.slice (some {block:=b0,off:=o0}) k cap:=R.dep 6 49 (by decide) rfl rfl
        have e52:ρ (.tmp 52)=Value.int IntKind.i64 (↑x + ↑i):=R.dep 9 52 (by decide) rfl rfl
        exact⟨_,by simp[execOp,go_sem,e49,e52,i3,v4,v5],rfl⟩
      ·exact dp rfl fun X ρ v R=>by
        have e53:ρ (.tmp 53)=Value.pointer (some {block:=b0,off:=o0+(x+i)*4}):=R.dep 10 53 (by decide) rfl rfl
        have x0:=cell_later R.b y0
        have x1:=cell_later R.b y1
        have x2:=cell_later R.b y2
        have x3:=cell_later R.b y3
        exact⟨_,by simp[execOp,go_sem,e53,x0,x1,x2,x3],rfl⟩
      ·exact pK 46 rfl fun X ρ v R=>by
        obtain⟨s45,p45,n45,t45,q45,m45,e45,H45⟩:=R.dep 2 45 (by decide) rfl rfl
        have e54:ρ (.tmp 54)=Value.agg #[Value.bool e.s,Value.slice e.p e.n e.n,Value.bool e.t,Value.slice e.q e.m e.m]:=R.dep 11 54 (by decide) rfl rfl
        exact⟨_,by simp[execOp,go_sem,e45,e54,R.fn],Bk (DC H45 (hev.1.below R.b) (by omega) hQ (by omega))⟩
      ·exact pK 45 rfl fun X ρ v R=>by
        have e43:ρ (.tmp 43)=Value.agg #[Value.bool s,Value.slice p a a,Value.bool t,Value.slice q' b b]:=R.dep 0 43 (by decide) rfl rfl
        obtain⟨s55,p55,n55,t55,q55,m55,e55,H55⟩:=R.dep 12 55 (by decide) rfl rfl
        exact⟨_,by simp[execOp,go_sem,e43,e55,R.fn],Bk (Dx (HG.out.v7.below R.b) H55 hS (by omega) (by omega))⟩
     intro vals w6 hb6 hv
     have e_0:vals 0=Value.agg #[Value.bool s,Value.slice p a a,Value.bool t,Value.slice q' b b]:=hv (0,43) (by decide)
     have e_1:vals 1=Value.agg #[Value.bool u.s,Value.slice u.p u.n u.n]:=hv (1,44) (by decide)
     obtain⟨s_2,p_2,n_2,t_2,q_2,m_2,e_2,H_2⟩:=hv (2,45) (by decide)
     have e_3:vals 3=Value.pointer (some {block:=gs,off:=0}):=hv (3,46) (by decide)
     have e_4:vals 4=Value.pointer (some {block:=gs,off:=0}):=hv (4,47) (by decide)
     have e_5:vals 5=Value.pointer (some {block:=gs,off:=2}):=hv (5,48) (by decide)
     have e_6:vals 6=Value.slice (some {block:=b0,off:=o0}) k cap:=hv (6,49) (by decide)
     have e_7:vals 7=Value.int IntKind.i64 ↑x:=hv (7,50) (by decide)
     have e_8:vals 8=Value.int IntKind.i64 ↑i:=hv (8,51) (by decide)
     have e_9:vals 9=Value.int IntKind.i64 (↑x + ↑i):=hv (9,52) (by decide)
     have e_10:vals 10=Value.pointer (some {block:=b0,off:=o0+(x+i)*4}):=hv (10,53) (by decide)
     have e_11:vals 11=Value.agg #[Value.bool e.s,Value.slice e.p e.n e.n,Value.bool e.t,Value.slice e.q e.m e.m]:=hv (11,54) (by decide)
     obtain⟨s_12,p_12,n_12,t_12,q_12,m_12,e_12,H_12⟩:=hv (12,55) (by decide)
     obtain⟨s_13,p_13,n_13,t_13,q_13,m_13,e_13,H_13⟩:=hv (13,56) (by decide)
     refine xZ (o:={dst:=none,op:=Op.store 45 (Operand.tmp 7) (Operand.tmp 56),type:=0,pos := "ref.go:100",after:=#[{on:=13,ground:=Ground.data},{on:=13,ground:=Ground.chain},{on:=0,ground:=Ground.phase},{on:=1,ground:=Ground.phase},{on:=2,ground:=Ground.phase},{on:=3,ground:=Ground.phase},{on:=4,ground:=Ground.phase},{on:=5,ground:=Ground.phase},{on:=6,ground:=Ground.phase},{on:=7,ground:=Ground.phase},{on:=8,ground:=Ground.phase},{on:=9,ground:=Ground.phase},{on:=10,ground:=Ground.phase},{on:=11,ground:=Ground.phase},{on:=12,ground:=Ground.phase},{on:=13,ground:=Ground.phase}],guard:=none}) rfl ?_
     simp only[List.foldl,e_0,e_1,e_2,e_3,e_4,e_5,e_6,e_7,e_8,e_9,e_10,e_11,e_12,e_13,List.setIfInBounds_toArray,List.set_cons_succ,List.set_cons_zero]
     clear hv e_0 e_1 e_2 e_3 e_4 e_5 e_6 e_7 e_8 e_9 e_10 e_11 e_12 e_13
     have hG6:=HG.out.later hb6
     have hsx:Sz (pss l f x (i+1)) S:=by
      have h9:=HF.out.2.2.1 k (i+1) (by omega) (by omega) (by omega)
      rw[show k-r=x by have:=HX.out;omega] at h9
      exact h9
     have HP:Hid _:=hG6.put (MQ.tight (L:=S) H_13 hsx)
     have f0:=frozen_of_row w6 g7 0 _ _ hG6.b7
     have f1:=frozen_of_row w6 g7 1 _ _ hG6.b7
     have f2:=frozen_of_row w6 g7 2 _ _ hG6.b7
     have f3:=frozen_of_row w6 g7 3 _ _ hG6.b7
     have z0:w6.cell? ⟨g7,0,none⟩=some (.bool s):=by rw[cell_of_row w6 g7 0 _ _ _ hG6.b7];rfl
     have z1:w6.cell? ⟨g7,1,none⟩=some (.slice p a a):=by rw[cell_of_row w6 g7 1 _ _ _ hG6.b7];rfl
     have z2:w6.cell? ⟨g7,2,none⟩=some (.bool t):=by rw[cell_of_row w6 g7 2 _ _ _ hG6.b7];rfl
     have z3:w6.cell? ⟨g7,3,none⟩=some (.slice q' b b):=by rw[cell_of_row w6 g7 3 _ _ _ hG6.b7];rfl
     clear hG6 hsx H_2 H_12 H_13 hev y0 y1 y2 y3 q0 q1 c2 hu hu2 hb6 HG
     go_wp2
     go_roundw
     case rel=>exact⟨i+1,_,_,_,_,_,_,by omega,by go_num,HP.out⟩
     case measure=>simp[intOf];omega
    ·have hrx:i=r:=by omega
     subst hrx
     have c0:wr.cell? ⟨gs,0,none⟩=some (.slice h.p h.n h.c):=by rw[cell_of_row wr gs 0 _ _ _ G.out.va.rs.bx];rfl
     have hrD:i+1≤D:=by
      obtain⟨hs,kk⟩:=G.out.va.rs.op
      have h1:=kk.tl
      have h2:=kk.few
      omega
     have hxk:x≤5000:=by have:=HX.out;omega
     have hsz:=Nat.le_trans G.out.va.sz G.out.va.bw.size
     have hat:=rL (K:=2) (L:=1) G.out.va.rs.op (Nat.le_trans G.out.va.rs.T hsz) (by omega) i (by omega) (x:Int) (by omega) (by omega) hE (by decide) (HF.out.2.2.2.1 i) (by rw[show pw 1=4294967296 by decide];omega) (by omega) (by decide)
     go_wp2_with fail
     go_fit hat
     rintro r0 w5 ⟨u,rfl,hu,hb5⟩
     clear hat c0
     have hu2:RV w5 (2*C) (evz (x:Int) (gt l i)) u.s u.p u.n:=(hu.wide (show 2*(2+E*(1+1))≤2*C by omega)).1
     have huc:=hu.2
     have hin:=s_ (K:=C) hu2 (by omega)
     have HG5:Hid (VaS w w5 base gs B T E D Q S l h wv (.slice q k cap) rs f k g4 x i g7 s p a t q' b):=G.out.later hb5
     clear G hu hu2 hb5
     go_wp2_with fail
     go_fit hin
     rintro r0 w6 ⟨t10,q10,m10,rfl,hM10,hF10,hb6⟩
     have HO6:Hid (∀g,(Value.slice q k cap).ownBlock=some g→g<w6.heap.size):=fun g e=>Nat.lt_of_lt_of_le (HG5.out.va.rs.lw.own.lt g e).2 hb6.size
     have hal:=af (o:=.cells #[.bool u.s,.slice u.p u.n u.n,.bool t10,.slice q10 m10 m10] 45) (Below.refl w6.heap.size w6)
     have HG:Hid (VaS w (w6.alloc (.cells #[.bool u.s,.slice u.p u.n u.n,.bool t10,.slice q10 m10 m10] 45)) base gs B T E D Q S l h wv (.slice q k cap) rs f k g4 x i g7 s p a t q' b):=HG5.out.later (ae hb6 hal)
     have HM10:Hid (MQ (w6.alloc (.cells #[.bool u.s,.slice u.p u.n u.n,.bool t10,.slice q10 m10 m10] 45)) C u.s u.p u.n t10 q10 m10 ((evz (x:Int) (gt l i):Int):Rat)):=hM10.below hal
     have hnew:=cV w6 (.cells #[.bool u.s,.slice u.p u.n u.n,.bool t10,.slice q10 m10 m10] 45)
     clear hal hM10 hF10 hb6 HG5 hin huc
     go_wp2_with fail
     generalize w6.alloc (.cells #[.bool u.s,.slice u.p u.n u.n,.bool t10,.slice q10 m10 m10] 45)=W at *
     have HGt:Hid ((∀g,(Value.slice q k cap).ownBlock=some g→g<w6.heap.size)∧w6.heap.size<W.heap.size):=⟨fun g e=>HO6.out g e,(Array.getElem?_eq_some_iff.1 hnew).1⟩
     have d0:W.cell? ⟨w6.heap.size,0,none⟩=some (.bool u.s):=by rw[cell_of_row W _ 0 _ _ _ hnew];rfl
     have d1:W.cell? ⟨w6.heap.size,1,none⟩=some (.slice u.p u.n u.n):=by rw[cell_of_row W _ 1 _ _ _ hnew];rfl
     have d2:W.cell? ⟨w6.heap.size,2,none⟩=some (.bool t10):=by rw[cell_of_row W _ 2 _ _ _ hnew];rfl
     have d3:W.cell? ⟨w6.heap.size,3,none⟩=some (.slice q10 m10 m10):=by rw[cell_of_row W _ 3 _ _ _ hnew];rfl
     generalize w6.heap.size=g10 at *
     clear hnew
     have c2:W.cell? ⟨gs,2,none⟩=some (.slice q k cap):=by rw[cell_of_row W gs 2 _ _ _ HG.out.va.rs.bx];rfl
     have z0:W.cell? ⟨g7,0,none⟩=some (.bool s):=by rw[cell_of_row W g7 0 _ _ _ HG.out.b7];rfl
     have z1:W.cell? ⟨g7,1,none⟩=some (.slice p a a):=by rw[cell_of_row W g7 1 _ _ _ HG.out.b7];rfl
     have z2:W.cell? ⟨g7,2,none⟩=some (.bool t):=by rw[cell_of_row W g7 2 _ _ _ HG.out.b7];rfl
     have z3:W.cell? ⟨g7,3,none⟩=some (.slice q' b b):=by rw[cell_of_row W g7 3 _ _ _ HG.out.b7];rfl
     obtain⟨i0,hi0,hzz⟩:=Option.map_eq_some_iff.1 lC
     simp only[Prod.mk.injEq] at hzz
     obtain⟨hz0,hz1,hz2⟩:=hzz
     have hown0:=HG.out.va.rs.lw.own
     rw[hlen] at hown0
     have HO:Hid (W.ownsRow base 45 4 (.slice q k cap) k (frl rs)):=hown0
     have hbz:=Nat.le_trans HG.out.va.sz HG.out.va.bw.size
     clear hown0
     have k8:dU W g7 g10 s p a t q' b u.s u.p u.n t10 q10 m10:=⟨z0,z1,z2,z3,d0,d1,d2,d3⟩
     have r10:Hid ((Value.slice q k cap).ownBlock≠some g7∧(Value.slice q k cap).ownBlock≠some g10):=⟨HG.out.y7,fun e=>by
      have h1:=HGt.out
      have h2:=(h1.1 _ e)
      omega⟩
     have n7:g7≠gs:=fun e=>by
      have h1:=HG.out.b7
      rw[e,HG.out.va.rs.bx] at h1
      cases h1
     have n10:g10≠gs:=fun e=>by
      rw[e,cell_of_row W gs 0 _ _ _ HG.out.va.rs.bx] at d0
      cases d0
     refine wp_region_held_drew (S:=fun w'=>dU w' g7 g10 s p a t q' b u.s u.p u.n t10 q10 m10) (by kernel_rfl) (k8.below (Below.refl _ _).drew) (fun hHeld=>?_)
     have c2':=c2
     have c2:W.drew.cell? ⟨gs,2,none⟩=some (.slice q k cap):=c2
     refine wpAnyH_take (i:=0) (v:=.pointer (some ⟨gs,0,none⟩)) rfl (by kernel_rfl) (by kernel_rfl) (by kernel_rfl) (fun _ _ _ h=>h) (Or.inl ⟨by rfl,fun w hSw=>?_⟩) (by assumption) ?_
     ·dsimp only at hSw
      go_simp
     try simp only[Act.put,List.setIfInBounds_toArray,List.set_cons_zero,List.set_cons_succ]
     refine wpAnyH_take (i:=1) (v:=.pointer (some ⟨gs,0,none⟩)) rfl (by kernel_rfl) (by kernel_rfl) (by kernel_rfl) (fun _ _ _ h=>h) (Or.inl ⟨by rfl,fun w hSw=>?_⟩) (by assumption) ?_
     ·dsimp only at hSw
      go_simp
     try simp only[Act.put,List.setIfInBounds_toArray,List.set_cons_zero,List.set_cons_succ]
     refine wpAnyH_take (i:=2) (v:=.pointer (some ⟨gs,0,none⟩)) rfl (by kernel_rfl) (by kernel_rfl) (by kernel_rfl) (fun _ _ _ h=>h) (Or.inl ⟨by rfl,fun w hSw=>?_⟩) (by assumption) ?_
     ·dsimp only at hSw
      go_simp
     try simp only[Act.put,List.setIfInBounds_toArray,List.set_cons_zero,List.set_cons_succ]
     refine wpAnyH_take (i:=3) (v:=.pointer (some ⟨gs,2,none⟩)) rfl (by kernel_rfl) (by kernel_rfl) (by kernel_rfl) (fun _ _ _ h=>h) (Or.inl ⟨by rfl,fun w hSw=>?_⟩) (by assumption) ?_
     ·dsimp only at hSw
      go_simp
     try simp only[Act.put,List.setIfInBounds_toArray,List.set_cons_zero,List.set_cons_succ]
     refine wpAnyH_take (i:=5) (v:=.agg #[.bool s,.slice p a a,.bool t,.slice q' b b]) rfl (by kernel_rfl) (by kernel_rfl) (by kernel_rfl) (fun _ _ _ h=>h) (Or.inl ⟨by rfl,fun w hSw=>?_⟩) (by assumption) ?_
     ·dsimp only at hSw
      obtain⟨k0,k1,k2,k3,k4,k5,k6,k7⟩:=hSw
      go_simp
     try simp only[Act.put,List.setIfInBounds_toArray,List.set_cons_zero,List.set_cons_succ]
     refine wpAnyH_take (i:=6) (v:=.agg #[.bool u.s,.slice u.p u.n u.n,.bool t10,.slice q10 m10 m10]) rfl (by kernel_rfl) (by kernel_rfl) (by kernel_rfl) (fun _ _ _ h=>h) (Or.inl ⟨by rfl,fun w hSw=>?_⟩) (by assumption) ?_
     ·dsimp only at hSw
      obtain⟨k0,k1,k2,k3,k4,k5,k6,k7⟩:=hSw
      go_simp
     try simp only[Act.put,List.setIfInBounds_toArray,List.set_cons_zero,List.set_cons_succ]
     refine wpAnyH_ready (rs:=[4,7]) (by kernel_rfl) (by simp) ?_
     refine AllReadyH.cons rfl (fun K hK=>?_) (AllReadyH.cons rfl (fun K hK=>?_) AllReadyH.nil)
     ·go_simp
      refine hK.out _ _ (hHeld) (fun hHeld=>?_)
      clear hK K
      try simp only[Act.put,List.setIfInBounds_toArray,List.set_cons_zero,List.set_cons_succ]
      refine wpAnyH_ready (rs:=[7]) (by kernel_rfl) (by simp) ?_
      refine AllReadyH.cons rfl (fun K hK=>?_) AllReadyH.nil
      go_simp
      go_fit (yX (HG.out.v7.below ((Below.refl _ _).drew)) (HM10.out.below ((Below.refl _ _).drew)) hS (by omega) (by omega))
      rintro r0 x1 ⟨s1,p1,n1,t1,q1,m1,rfl,hM1,hF1,hF2,hb1⟩
      have hb1:=aC hb1
      have c2:x1.cell? ⟨gs,2,none⟩=some (.slice q k cap):=cell_later hb1 c2'
      go_wp2_with fail
      refine hK.out _ _ (k8.below hb1) (fun hHeld=>?_)
      clear hK K
      try simp only[Act.put,List.setIfInBounds_toArray,List.set_cons_zero,List.set_cons_succ]
      refine wpAnyH_ready (rs:=[8]) (by kernel_rfl) (by simp) ?_
      refine AllReadyH.cons rfl (fun K hK=>?_) AllReadyH.nil
      go_simp
      go_fit (pN hM1)
      rintro r0 x2 ⟨s2,rfl,hM2,hb2⟩
      have hb3:=ae hb1 hb2
      have c2:=cell_later hb2 c2
      go_wp2_with fail
      refine hK.out _ _ (k8.below hb3) (fun hHeld=>?_)
      clear hK K
      try simp only[Act.put,List.setIfInBounds_toArray,List.set_cons_zero,List.set_cons_succ]
      refine wpAnyH_ready (rs:=[9]) (by kernel_rfl) (by simp) ?_
      refine AllReadyH.cons rfl (fun K hK=>?_) AllReadyH.nil
      go_simp
      have c2:=cell_later (af (o:=.cells #[.bool s2,.slice p1 n1 n1,.bool t1,.slice q1 m1 m1] 45) (Below.refl x2.heap.size x2)) c2
      refine hK.out _ _ (k8.below (af hb3)) (fun hHeld=>?_)
      clear hK K
      try simp only[Act.put,List.setIfInBounds_toArray,List.set_cons_zero,List.set_cons_succ]
      refine wpAnyH_ready (rs:=[10]) (by kernel_rfl) (by simp) ?_
      refine AllReadyH.cons rfl (fun K hK=>?_) AllReadyH.nil
      refine step_append_lies _ rfl _ _ 70 rfl base 45 i0 (.agg #[.bool false,.slice none 0 0,.bool false,.slice none 0 0]) 4 64 Tryz.underlying70 hi0 hz0 hz1 hz2 rfl (by decide) (.slice q k cap) k (frl rs) rfl ((bW HO.out hb3).alloc _) ⟨x2.heap.size,0,none⟩ 1 1 [.bool s2,.slice p1 n1 n1,.bool t1,.slice q1 m1 m1] rfl rfl (World.news_of_block (heap_alloc_new x2 _)) (fun x hx=>by simp at hx;rcases hx with rfl|rfl|rfl|rfl<;>rfl) (by decide) (by unfold maxLen;omega) (by omega) (by have:=hb3.size;simp;omega) _ rfl ?_
      intro g cap3 w3 hown3 hgrow3 hat3 hlt3
      have k9:=k8.grown (af hb3) hgrow3 r10.out.1 r10.out.2
      refine hK.out _ _ (k9) (fun hHeld=>?_)
      clear hK K
      try simp only[Act.put,List.setIfInBounds_toArray,List.set_cons_zero,List.set_cons_succ]
      obtain⟨e0,f0⟩:=km HG.out.va hb3 hgrow3
      refine wpAnyH_take (i:=11) (v:=.pointer (some ⟨gs,0,none⟩)) rfl (by kernel_rfl) (by kernel_rfl) (by kernel_rfl) (fun _ _ _ h=>h) (Or.inl ⟨by rfl,fun w hSw=>?_⟩) (by assumption) ?_
      ·dsimp only at hSw
       go_simp
      try simp only[Act.put,List.setIfInBounds_toArray,List.set_cons_zero,List.set_cons_succ]
      refine wpAnyH_take (i:=12) (v:=.pointer (some ⟨gs,2,none⟩)) rfl (by kernel_rfl) (by kernel_rfl) (by kernel_rfl) (fun _ _ _ h=>h) (Or.inl ⟨by rfl,fun w hSw=>?_⟩) (by assumption) ?_
      ·dsimp only at hSw
       go_simp
      try simp only[Act.put,List.setIfInBounds_toArray,List.set_cons_zero,List.set_cons_succ]
      have hVA:Hid (VaI w (w3.setCell ⟨gs,2,none⟩ (.slice (some ⟨g,0,none⟩) (k+1) cap3)) base gs B T E D Q l h wv (.slice (some ⟨g,0,none⟩) (k+1) cap3) (rs++[⟨s2,p1,n1,n1,t1,q1,m1,m1⟩]) f (k+1) g4):=oQ HF.out.1 HF.out.2.1 HX.out hk hlt HG.out hb1 hb2 hM2 hF1 hF2 HF.out.2.2.2.2.2 hown3 hgrow3 hat3
      refine wpAnyH_ready (rs:=[13]) (by kernel_rfl) (by simp) ?_
      refine AllReadyH.cons rfl (fun K hK=>?_) AllReadyH.nil
      go_simp
      refine hK.out _ _ (k9.set n7 n10) (fun hHeld=>?_)
      clear hK K
      try simp only[Act.put,List.setIfInBounds_toArray,List.set_cons_zero,List.set_cons_succ]
      refine wpAnyH_done (by kernel_rfl) ?_ _
      clear hown3 hgrow3 hat3 hM1 hM2 k8 k9 hHeld c2 z0 z1 z2 z3 d0 d1 d2 d3 e0 f0 HG HM10 HO hb1 hb2 hb3 hF1 hF2 H
      go_wp2
      go_roundw
      case rel=>exact⟨k+1,_,_,by omega,by omega,hVA.out⟩
      case measure=>exact mF hlt hv0 hVA.out
     ·go_simp
      go_fit (yX (HG.out.v7.below ((Below.refl _ _).drew)) (HM10.out.below ((Below.refl _ _).drew)) hS (by omega) (by omega))
      rintro r0 x1 ⟨s1,p1,n1,t1,q1,m1,rfl,hM1,hF1,hF2,hb1⟩
      have hb1:=aC hb1
      have c2:x1.cell? ⟨gs,2,none⟩=some (.slice q k cap):=cell_later hb1 c2'
      go_wp2_with fail
      refine hK.out _ _ (k8.below hb1) (fun hHeld=>?_)
      clear hK K
      try simp only[Act.put,List.setIfInBounds_toArray,List.set_cons_zero,List.set_cons_succ]
      refine wpAnyH_ready (rs:=[4,8]) (by kernel_rfl) (by simp) ?_
      refine AllReadyH.cons rfl (fun K hK=>?_) (AllReadyH.cons rfl (fun K hK=>?_) AllReadyH.nil)
      ·go_simp
       refine hK.out _ _ (hHeld) (fun hHeld=>?_)
       clear hK K
       try simp only[Act.put,List.setIfInBounds_toArray,List.set_cons_zero,List.set_cons_succ]
       refine wpAnyH_ready (rs:=[8]) (by kernel_rfl) (by simp) ?_
       refine AllReadyH.cons rfl (fun K hK=>?_) AllReadyH.nil
       go_simp
       go_fit (pN hM1)
       rintro r0 x2 ⟨s2,rfl,hM2,hb2⟩
       have hb3:=ae hb1 hb2
       have c2:=cell_later hb2 c2
       go_wp2_with fail
       refine hK.out _ _ (k8.below hb3) (fun hHeld=>?_)
       clear hK K
       try simp only[Act.put,List.setIfInBounds_toArray,List.set_cons_zero,List.set_cons_succ]
       refine wpAnyH_ready (rs:=[9]) (by kernel_rfl) (by simp) ?_
       refine AllReadyH.cons rfl (fun K hK=>?_) AllReadyH.nil
       go_simp
       have c2:=cell_later (af (o:=.cells #[.bool s2,.slice p1 n1 n1,.bool t1,.slice q1 m1 m1] 45) (Below.refl x2.heap.size x2)) c2
       refine hK.out _ _ (k8.below (af hb3)) (fun hHeld=>?_)
       clear hK K
       try simp only[Act.put,List.setIfInBounds_toArray,List.set_cons_zero,List.set_cons_succ]
       refine wpAnyH_ready (rs:=[10]) (by kernel_rfl) (by simp) ?_
       refine AllReadyH.cons rfl (fun K hK=>?_) AllReadyH.nil
       refine step_append_lies _ rfl _ _ 70 rfl base 45 i0 (.agg #[.bool false,.slice none 0 0,.bool false,.slice none 0 0]) 4 64 Tryz.underlying70 hi0 hz0 hz1 hz2 rfl (by decide) (.slice q k cap) k (frl rs) rfl ((bW HO.out hb3).alloc _) ⟨x2.heap.size,0,none⟩ 1 1 [.bool s2,.slice p1 n1 n1,.bool t1,.slice q1 m1 m1] rfl rfl (World.news_of_block (heap_alloc_new x2 _)) (fun x hx=>by simp at hx;rcases hx with rfl|rfl|rfl|rfl<;>rfl) (by decide) (by unfold maxLen;omega) (by omega) (by have:=hb3.size;simp;omega) _ rfl ?_
       intro g cap3 w3 hown3 hgrow3 hat3 hlt3
       have k9:=k8.grown (af hb3) hgrow3 r10.out.1 r10.out.2
       refine hK.out _ _ (k9) (fun hHeld=>?_)
       clear hK K
       try simp only[Act.put,List.setIfInBounds_toArray,List.set_cons_zero,List.set_cons_succ]
       obtain⟨e0,f0⟩:=km HG.out.va hb3 hgrow3
       refine wpAnyH_take (i:=11) (v:=.pointer (some ⟨gs,0,none⟩)) rfl (by kernel_rfl) (by kernel_rfl) (by kernel_rfl) (fun _ _ _ h=>h) (Or.inl ⟨by rfl,fun w hSw=>?_⟩) (by assumption) ?_
       ·dsimp only at hSw
        go_simp
       try simp only[Act.put,List.setIfInBounds_toArray,List.set_cons_zero,List.set_cons_succ]
       refine wpAnyH_take (i:=12) (v:=.pointer (some ⟨gs,2,none⟩)) rfl (by kernel_rfl) (by kernel_rfl) (by kernel_rfl) (fun _ _ _ h=>h) (Or.inl ⟨by rfl,fun w hSw=>?_⟩) (by assumption) ?_
       ·dsimp only at hSw
        go_simp
       try simp only[Act.put,List.setIfInBounds_toArray,List.set_cons_zero,List.set_cons_succ]
       have hVA:Hid (VaI w (w3.setCell ⟨gs,2,none⟩ (.slice (some ⟨g,0,none⟩) (k+1) cap3)) base gs B T E D Q l h wv (.slice (some ⟨g,0,none⟩) (k+1) cap3) (rs++[⟨s2,p1,n1,n1,t1,q1,m1,m1⟩]) f (k+1) g4):=oQ HF.out.1 HF.out.2.1 HX.out hk hlt HG.out hb1 hb2 hM2 hF1 hF2 HF.out.2.2.2.2.2 hown3 hgrow3 hat3
       refine wpAnyH_ready (rs:=[13]) (by kernel_rfl) (by simp) ?_
       refine AllReadyH.cons rfl (fun K hK=>?_) AllReadyH.nil
       go_simp
       refine hK.out _ _ (k9.set n7 n10) (fun hHeld=>?_)
       clear hK K
       try simp only[Act.put,List.setIfInBounds_toArray,List.set_cons_zero,List.set_cons_succ]
       refine wpAnyH_done (by kernel_rfl) ?_ _
       clear hown3 hgrow3 hat3 hM1 hM2 k8 k9 hHeld c2 z0 z1 z2 z3 d0 d1 d2 d3 e0 f0 HG HM10 HO hb1 hb2 hb3 hF1 hF2 H
       go_wp2
       go_roundw
       case rel=>exact⟨k+1,_,_,by omega,by omega,hVA.out⟩
       case measure=>exact mF hlt hv0 hVA.out
      ·go_simp
       go_fit (pN hM1)
       rintro r0 x2 ⟨s2,rfl,hM2,hb2⟩
       have hb3:=ae hb1 hb2
       have c2:=cell_later hb2 c2
       go_wp2_with fail
       refine hK.out _ _ (k8.below hb3) (fun hHeld=>?_)
       clear hK K
       try simp only[Act.put,List.setIfInBounds_toArray,List.set_cons_zero,List.set_cons_succ]
       refine wpAnyH_ready (rs:=[4,9]) (by kernel_rfl) (by simp) ?_
       refine AllReadyH.cons rfl (fun K hK=>?_) (AllReadyH.cons rfl (fun K hK=>?_) AllReadyH.nil)
       ·go_simp
        refine hK.out _ _ (hHeld) (fun hHeld=>?_)
        clear hK K
        try simp only[Act.put,List.setIfInBounds_toArray,List.set_cons_zero,List.set_cons_succ]
        refine wpAnyH_ready (rs:=[9]) (by kernel_rfl) (by simp) ?_
        refine AllReadyH.cons rfl (fun K hK=>?_) AllReadyH.nil
        go_simp
        have c2:=cell_later (af (o:=.cells #[.bool s2,.slice p1 n1 n1,.bool t1,.slice q1 m1 m1] 45) (Below.refl x2.heap.size x2)) c2
        refine hK.out _ _ (k8.below (af hb3)) (fun hHeld=>?_)
        clear hK K
        try simp only[Act.put,List.setIfInBounds_toArray,List.set_cons_zero,List.set_cons_succ]
        refine wpAnyH_ready (rs:=[10]) (by kernel_rfl) (by simp) ?_
        refine AllReadyH.cons rfl (fun K hK=>?_) AllReadyH.nil
        refine step_append_lies _ rfl _ _ 70 rfl base 45 i0 (.agg #[.bool false,.slice none 0 0,.bool false,.slice none 0 0]) 4 64 Tryz.underlying70 hi0 hz0 hz1 hz2 rfl (by decide) (.slice q k cap) k (frl rs) rfl ((bW HO.out hb3).alloc _) ⟨x2.heap.size,0,none⟩ 1 1 [.bool s2,.slice p1 n1 n1,.bool t1,.slice q1 m1 m1] rfl rfl (World.news_of_block (heap_alloc_new x2 _)) (fun x hx=>by simp at hx;rcases hx with rfl|rfl|rfl|rfl<;>rfl) (by decide) (by unfold maxLen;omega) (by omega) (by have:=hb3.size;simp;omega) _ rfl ?_
        intro g cap3 w3 hown3 hgrow3 hat3 hlt3
        have k9:=k8.grown (af hb3) hgrow3 r10.out.1 r10.out.2
        refine hK.out _ _ (k9) (fun hHeld=>?_)
        clear hK K
        try simp only[Act.put,List.setIfInBounds_toArray,List.set_cons_zero,List.set_cons_succ]
        obtain⟨e0,f0⟩:=km HG.out.va hb3 hgrow3
        refine wpAnyH_take (i:=11) (v:=.pointer (some ⟨gs,0,none⟩)) rfl (by kernel_rfl) (by kernel_rfl) (by kernel_rfl) (fun _ _ _ h=>h) (Or.inl ⟨by rfl,fun w hSw=>?_⟩) (by assumption) ?_
        ·dsimp only at hSw
         go_simp
        try simp only[Act.put,List.setIfInBounds_toArray,List.set_cons_zero,List.set_cons_succ]
        refine wpAnyH_take (i:=12) (v:=.pointer (some ⟨gs,2,none⟩)) rfl (by kernel_rfl) (by kernel_rfl) (by kernel_rfl) (fun _ _ _ h=>h) (Or.inl ⟨by rfl,fun w hSw=>?_⟩) (by assumption) ?_
        ·dsimp only at hSw
         go_simp
        try simp only[Act.put,List.setIfInBounds_toArray,List.set_cons_zero,List.set_cons_succ]
        have hVA:Hid (VaI w (w3.setCell ⟨gs,2,none⟩ (.slice (some ⟨g,0,none⟩) (k+1) cap3)) base gs B T E D Q l h wv (.slice (some ⟨g,0,none⟩) (k+1) cap3) (rs++[⟨s2,p1,n1,n1,t1,q1,m1,m1⟩]) f (k+1) g4):=oQ HF.out.1 HF.out.2.1 HX.out hk hlt HG.out hb1 hb2 hM2 hF1 hF2 HF.out.2.2.2.2.2 hown3 hgrow3 hat3
        refine wpAnyH_ready (rs:=[13]) (by kernel_rfl) (by simp) ?_
        refine AllReadyH.cons rfl (fun K hK=>?_) AllReadyH.nil
        go_simp
        refine hK.out _ _ (k9.set n7 n10) (fun hHeld=>?_)
        clear hK K
        try simp only[Act.put,List.setIfInBounds_toArray,List.set_cons_zero,List.set_cons_succ]
        refine wpAnyH_done (by kernel_rfl) ?_ _
        clear hown3 hgrow3 hat3 hM1 hM2 k8 k9 hHeld c2 z0 z1 z2 z3 d0 d1 d2 d3 e0 f0 HG HM10 HO hb1 hb2 hb3 hF1 hF2 H
        go_wp2
        go_roundw
        case rel=>exact⟨k+1,_,_,by omega,by omega,hVA.out⟩
        case measure=>exact mF hlt hv0 hVA.out
       ·go_simp
        have c2:=cell_later (af (o:=.cells #[.bool s2,.slice p1 n1 n1,.bool t1,.slice q1 m1 m1] 45) (Below.refl x2.heap.size x2)) c2
        refine hK.out _ _ (k8.below (af hb3)) (fun hHeld=>?_)
        clear hK K
        try simp only[Act.put,List.setIfInBounds_toArray,List.set_cons_zero,List.set_cons_succ]
        refine wpAnyH_ready (rs:=[4]) (by kernel_rfl) (by simp) ?_
        refine AllReadyH.cons rfl (fun K hK=>?_) AllReadyH.nil
        go_simp
        refine hK.out _ _ (hHeld) (fun hHeld=>?_)
        clear hK K
        try simp only[Act.put,List.setIfInBounds_toArray,List.set_cons_zero,List.set_cons_succ]
        refine wpAnyH_ready (rs:=[10]) (by kernel_rfl) (by simp) ?_
        refine AllReadyH.cons rfl (fun K hK=>?_) AllReadyH.nil
        refine step_append_lies _ rfl _ _ 70 rfl base 45 i0 (.agg #[.bool false,.slice none 0 0,.bool false,.slice none 0 0]) 4 64 Tryz.underlying70 hi0 hz0 hz1 hz2 rfl (by decide) (.slice q k cap) k (frl rs) rfl ((bW HO.out hb3).alloc _) ⟨x2.heap.size,0,none⟩ 1 1 [.bool s2,.slice p1 n1 n1,.bool t1,.slice q1 m1 m1] rfl rfl (World.news_of_block (heap_alloc_new x2 _)) (fun x hx=>by simp at hx;rcases hx with rfl|rfl|rfl|rfl<;>rfl) (by decide) (by unfold maxLen;omega) (by omega) (by have:=hb3.size;simp;omega) _ rfl ?_
        intro g cap3 w3 hown3 hgrow3 hat3 hlt3
        have k9:=k8.grown (af hb3) hgrow3 r10.out.1 r10.out.2
        refine hK.out _ _ (k9) (fun hHeld=>?_)
        clear hK K
        try simp only[Act.put,List.setIfInBounds_toArray,List.set_cons_zero,List.set_cons_succ]
        obtain⟨e0,f0⟩:=km HG.out.va hb3 hgrow3
        refine wpAnyH_take (i:=11) (v:=.pointer (some ⟨gs,0,none⟩)) rfl (by kernel_rfl) (by kernel_rfl) (by kernel_rfl) (fun _ _ _ h=>h) (Or.inl ⟨by rfl,fun w hSw=>?_⟩) (by assumption) ?_
        ·dsimp only at hSw
         go_simp
        try simp only[Act.put,List.setIfInBounds_toArray,List.set_cons_zero,List.set_cons_succ]
        refine wpAnyH_take (i:=12) (v:=.pointer (some ⟨gs,2,none⟩)) rfl (by kernel_rfl) (by kernel_rfl) (by kernel_rfl) (fun _ _ _ h=>h) (Or.inl ⟨by rfl,fun w hSw=>?_⟩) (by assumption) ?_
        ·dsimp only at hSw
         go_simp
        try simp only[Act.put,List.setIfInBounds_toArray,List.set_cons_zero,List.set_cons_succ]
        have hVA:Hid (VaI w (w3.setCell ⟨gs,2,none⟩ (.slice (some ⟨g,0,none⟩) (k+1) cap3)) base gs B T E D Q l h wv (.slice (some ⟨g,0,none⟩) (k+1) cap3) (rs++[⟨s2,p1,n1,n1,t1,q1,m1,m1⟩]) f (k+1) g4):=oQ HF.out.1 HF.out.2.1 HX.out hk hlt HG.out hb1 hb2 hM2 hF1 hF2 HF.out.2.2.2.2.2 hown3 hgrow3 hat3
        refine wpAnyH_ready (rs:=[13]) (by kernel_rfl) (by simp) ?_
        refine AllReadyH.cons rfl (fun K hK=>?_) AllReadyH.nil
        go_simp
        refine hK.out _ _ (k9.set n7 n10) (fun hHeld=>?_)
        clear hK K
        try simp only[Act.put,List.setIfInBounds_toArray,List.set_cons_zero,List.set_cons_succ]
        refine wpAnyH_done (by kernel_rfl) ?_ _
        clear hown3 hgrow3 hat3 hM1 hM2 k8 k9 hHeld c2 z0 z1 z2 z3 d0 d1 d2 d3 e0 f0 HG HM10 HO hb1 hb2 hb3 hF1 hF2 H
        go_wp2
        go_roundw
        case rel=>exact⟨k+1,_,_,by omega,by omega,hVA.out⟩
        case measure=>exact mF hlt hv0 hVA.out
end Go.Proofs.YtfnkomoickanfaaGreatDoor
