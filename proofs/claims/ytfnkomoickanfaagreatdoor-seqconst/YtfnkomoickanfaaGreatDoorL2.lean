/- Own. -/
import Derived.Test.YtfnkomoickanfaaGreatDoorH2
import Derived.Test.YtfnkomoickanfaaGreatDoorEq
set_option linter.unusedVariables false
set_option linter.unusedSimpArgs false
set_option maxHeartbeats 8000000
set_option maxRecDepth 100000
namespace Go.Proofs.YtfnkomoickanfaaGreatDoor
open Go.RowKit
def dJ(w:World)(g:Nat)(t:TypeId)(rs:List Rq):Prop:=w.heap[g]?=some (.cells (frl rs).toArray t (0,0))
theorem BM(rs:List Rq):∀(j:Nat) (e:Rq),j<rs.length→((((frl rs).set (j*4) (.bool e.s)).set (j*4+1) (.slice e.p e.n e.c)).set (j*4+2) (.bool e.t)).set (j*4+3) (.slice e.q e.m e.d)=frl (rs.set j e):=by
 induction rs with
 |nil=>intro j e hj;simp at hj
 |cons r rs ih=>
  intro j e hj
  cases j with
  |zero=>simp[frl,Rq.cells]
  |succ j=>
   have h:=ih j e (by simpa using hj)
   have e1:(j+1)*4=j*4+1+1+1+1:=by omega
   rw[e1]
   simp only[frl,List.flatMap_cons,Rq.cells,List.cons_append,List.nil_append,List.set_cons_succ] at h ⊢
   rw[h]
theorem dJ.lt{w:World}{g:Nat}{t:TypeId}{rs:List Rq}(h:dJ w g t rs):g<w.heap.size:=(Array.getElem?_eq_some_iff.1 h).1
theorem dJ.set{w:World}{g:Nat}{t:TypeId}{rs:List Rq}(h:dJ w g t rs)(j:Nat)(e:Rq)(hj:j<rs.length):dJ ((((w.setCell ⟨g,j*4,none⟩ (.bool e.s)).setCell ⟨g,j*4+1,none⟩ (.slice e.p e.n e.c)).setCell ⟨g,j*4+2,none⟩ (.bool e.t)).setCell ⟨g,j*4+3,none⟩ (.slice e.q e.m e.d)) g t (rs.set j e):=by
 unfold dJ
 have h1:=heap_setCell_same w g (j*4) _ t (.bool e.s) h
 have h2:=heap_setCell_same _ g (j*4+1) _ t (.slice e.p e.n e.c) h1
 have h3:=heap_setCell_same _ g (j*4+2) _ t (.bool e.t) h2
 rw[heap_setCell_same _ g (j*4+3) _ t (.slice e.q e.m e.d) h3]
 simp only[List.setIfInBounds_toArray]
 rw[BM rs j e hj]
theorem dJ.cell{w:World}{g:Nat}{t:TypeId}{rs:List Rq}(h:dJ w g t rs)(j:Nat)(hj:j<rs.length):w.cell? ⟨g,j*4,none⟩=some (.bool (gr rs j).s)∧w.cell? ⟨g,j*4+1,none⟩=some (.slice (gr rs j).p (gr rs j).n (gr rs j).c)∧w.cell? ⟨g,j*4+2,none⟩=some (.bool (gr rs j).t)∧w.cell? ⟨g,j*4+3,none⟩=some (.slice (gr rs j).q (gr rs j).m (gr rs j).d):=by
 obtain⟨h1,h2,h3,h4⟩:=mj rs j hj
 rw[cell_of_row w g (j*4) _ t (0,0) h,cell_of_row w g (j*4+1) _ t (0,0) h,cell_of_row w g (j*4+2) _ t (0,0) h,cell_of_row w g (j*4+3) _ t (0,0) h]
 simp only[List.getElem?_toArray]
 exact⟨h1,h2,h3,h4⟩
theorem dJ.frozen{w:World}{g:Nat}{t:TypeId}{rs:List Rq}(h:dJ w g t rs)(j:Nat):w.frozen? ⟨g,j,none⟩=false:=frozen_of_row w g j _ t h
theorem dJ.below{w w':World}{g:Nat}{t:TypeId}{rs:List Rq}(h:dJ w g t rs)(hb:Below w.heap.size w w'):dJ w' g t rs:=(hb.block g h.lt).trans h
theorem dJ.rl{w:World}{g:Nat}{t:TypeId}{rs:List Rq}(h:dJ w g t rs):RL w (some ⟨g,0,none⟩) rs:=fun _=>⟨g,0,rfl,fun j hj=>by
 simp only[Nat.zero_add];exact h.cell j hj⟩
def dG(n:Nat):List Rq:=List.replicate n rqz
theorem mo(n i:Nat):gr (dG n) i=rqz:=by
 unfold gr dG
 by_cases h:i<n
 ·simp[List.getElem?_replicate,h]
 ·simp[List.getElem?_replicate,h]
theorem BX(n:Nat):madeCells #[.bool false,.slice none 0 0,.bool false,.slice none 0 0] (n*4)=(frl (dG n)).toArray:=by
 have hl:(dG n).length=n:=by simp[dG]
 apply Array.ext
 ·simp[size_madeCells,kt,hl]
 ·intro i h1 h2
  have hlt:i<n*4:=by simpa [size_madeCells] using h1
  have hj:i/4<(dG n).length:=by rw[hl];omega
  obtain⟨g0,g1,g2,g3⟩:=mj (dG n) (i/4) hj
  have e:((frl (dG n)).toArray)[i]?=(frl (dG n))[i]?:=List.getElem?_toArray
  rw[Array.getElem?_eq_getElem h2] at e
  have hm:i%4=0∨i%4=1∨i%4=2∨i%4=3:=by omega
  rcases hm with h|h|h|h
  ·rw[show i/4*4=i by omega,←e,mo] at g0
   rw[Option.some.inj g0]
   simp[madeCells,h,rqz]
  ·rw[show i/4*4+1=i by omega,←e,mo] at g1
   rw[Option.some.inj g1]
   simp[madeCells,h,rqz]
  ·rw[show i/4*4+2=i by omega,←e,mo] at g2
   rw[Option.some.inj g2]
   simp[madeCells,h,rqz]
  ·rw[show i/4*4+3=i by omega,←e,mo] at g3
   rw[Option.some.inj g3]
   simp[madeCells,h,rqz]
theorem Dd(n:Nat)(h:n≤1000000000)(w:World):(Instr.makeSlice 38 (.int .i64 n) (.int .i64 n)).run Tryz.prog w =
  .ok (.slice (some ⟨w.heap.size,0,none⟩) n n) (w.alloc (.cells (frl (dG n)).toArray 26)):=by
 have hi:=yn
 cases hq:Tryz.prog.info? 26 with
 |none=>rw[hq] at hi;cases hi
 |some i=>
  rw[hq] at hi
  simp only[Option.map_some,Option.some.injEq,Prod.mk.injEq] at hi
  obtain⟨h1,h2,h3⟩:=hi
  have hr:=run_make (P:=Tryz.prog) w 38 26 i (.agg #[.bool false,.slice none 0 0,.bool false,.slice none 0 0]) Tryz.underlying38 hq h1 .i64 .i64 n n (by omega) (Int.le_refl _) (by rw[h3];omega) (by omega)
  rw[Int.toNat_natCast,h2] at hr
  rw[hr]
  exact congrArg (fun c=>Result.ok (Value.slice (some ⟨w.heap.size,0,none⟩) n n) (w.alloc (.cells c 26))) (BX n)
structure EaQ(w wr:World)(g L n k:Nat)(us:List Rq)(zs:List Rat):Prop where
 row:dJ wr g 26 us
 ul:us.length=n
 ev:∀j,j<k→EQa L wr (gq zs j) (gr us j)
 off:∀j,j<k→(gr us j).all fun b=>g<b
 bw:Below w.heap.size w wr
 wg:w.heap.size≤g
theorem AI.Br{w1:World}{p:Option Addr}{n nc:Nat}{xs:List Int}(h1:AI w1 p n nc xs)(g o:Nat)(ho:0<n→Off g p)(a b c d:Value):AI ((((w1.setCell ⟨g,o,none⟩ a).setCell ⟨g,o+1,none⟩ b).setCell ⟨g,o+2,none⟩ c).setCell ⟨g,o+3,none⟩ d) p n nc xs:=by
 refine⟨h1.len,h1.cap,h1.bnd,h1.sml,fun hx=>?_,h1.u⟩
 have hq:=ho (by rw[h1.len] at hx;exact hx)
 exact((((h1.rd.ah ⟨g,o,none⟩ _ hq).ah ⟨g,o+1,none⟩ _ hq).ah ⟨g,o+2,none⟩ _ hq).ah ⟨g,o+3,none⟩ _ hq) hx
theorem EaQ.step{w wr w1:World}{g L n k:Nat}{us:List Rq}{zs:List Rat}{u:Rq}(H:EaQ w wr g L n k us zs)(hlt:k<n)(hb2:Below wr.heap.size wr w1)(hu:EQa L w1 (gq zs k) u)(hall2:u.all fun b=>g<b):
  EaQ w ((((w1.setCell ⟨g,k*4,none⟩ (.bool u.s)).setCell ⟨g,k*4+1,none⟩ (.slice u.p u.n u.c)).setCell ⟨g,k*4+2,none⟩ (.bool u.t)).setCell ⟨g,k*4+3,none⟩ (.slice u.q u.m u.d)) g L n (k+1) (us.set k u) zs:=by
 have hul:=H.ul
 have hB1:=ae H.bw hb2
 have hE:∀{z:Rat} {e:Rq},EQa L w1 z e→(e.all fun b=>g<b)→EQa L ((((w1.setCell ⟨g,k*4,none⟩ (.bool u.s)).setCell ⟨g,k*4+1,none⟩ (.slice u.p u.n u.c)).setCell ⟨g,k*4+2,none⟩ (.bool u.t)).setCell ⟨g,k*4+3,none⟩ (.slice u.q u.m u.d)) z e:=fun {z e} h8 h9=>by
  obtain⟨xs,ys,g1,g2,g3⟩:=h8
  have o1:0<e.n→Off g e.p:=fun h0 a ha e'=>by have:=h9.1 h0 a ha;omega
  have o2:0<e.m→Off g e.q:=fun h0 a ha e'=>by have:=h9.2 h0 a ha;omega
  exact⟨xs,ys,g1.Br g (k*4) o1 _ _ _ _,g2.Br g (k*4) o2 _ _ _ _,g3⟩
 refine⟨(H.row.below hb2).set k u (by omega),by rw[List.length_set];exact hul,fun j hj=>?_,fun j hj=>?_,?_,H.wg⟩
 ·rcases Nat.lt_or_ge j k with h'|h'
  ·have e1:gr (us.set k u) j=gr us j:=by simp[gr,List.getElem?_set,show ¬k=j by omega]
   rw[e1]
   exact hE ((dP L).below (H.ev j h') hb2) (H.off j h')
  ·obtain rfl:j=k:=by omega
   have e1:gr (us.set j u) j=u:=by simp[gr,show j<us.length by omega]
   rw[e1]
   exact hE hu hall2
 ·rcases Nat.lt_or_ge j k with h'|h'
  ·have e1:gr (us.set k u) j=gr us j:=by simp[gr,List.getElem?_set,show ¬k=j by omega]
   rw[e1]
   exact H.off j h'
  ·obtain rfl:j=k:=by omega
   have e1:gr (us.set j u) j=u:=by simp[gr,show j<us.length by omega]
   rw[e1]
   exact hall2
 ·exact(((hB1.setCell (p:=⟨g,k*4,none⟩) H.wg _).setCell (p:=⟨g,k*4+1,none⟩) H.wg _).setCell (p:=⟨g,k*4+2,none⟩) H.wg _).setCell (p:=⟨g,k*4+3,none⟩) H.wg _
theorem tH{w:World}{g0 B T K E D Q:Nat}{zss:List (List Int)}{h k0 s:Hdr}{rs0:List Rq}{zs:List Rat}(H0:SQ w g0 K E D B T zss h k0 s)(G:WA (EQa Q) w k0.p k0.n k0.c rs0 zs)(hQ:Q≤500)(hn:k0.n≤1000000):
  Calls Tryz.prog 10 #[.pointer (some ⟨g0,0,none⟩)] w fun r w'=>∃q us,r=.returned (.slice q k0.n k0.n)∧WA (EQa (Q+1)) w' q k0.n k0.n us zs∧(0<k0.n→az w.heap.size q)∧Below w.heap.size w w':=by
 have hr:=g_ H0
 have HX:Hid (WA (EQa Q) w k0.p k0.n k0.c rs0 zs):=G
 clear H0 G
 obtain⟨p,n,nc⟩:=k0
 simp only at hr HX hn ⊢
 have hmk:=Dd n (by omega)
 have hf1:=sk
 go_enter Tryz.func10,Tryz.ntmps10
 go_wp2_with fail
 refine hr.mono ?_
 rintro r wq ⟨rfl,hbq⟩
 clear hr
 have HB0:Hid (Below w.heap.size w wq):=hbq
 clear hbq
 go_wp2_with fail
 have hR0:dJ (wq.alloc (.cells (frl (dG n)).toArray 26)) wq.heap.size 26 (dG n):=heap_alloc_new wq _
 have hW0:Below w.heap.size w (wq.alloc (.cells (frl (dG n)).toArray 26)):=HB0.out.alloc HB0.out.size _
 have HI0:Hid (EaQ w (wq.alloc (.cells (frl (dG n)).toArray 26)) wq.heap.size (Q+1) n 0 (dG n) zs):=⟨hR0,by simp[dG],fun j hj=>absurd hj (Nat.not_lt_zero _),fun j hj=>absurd hj (Nat.not_lt_zero _),hW0,HB0.out.size⟩
 clear hR0 hW0 HB0
 generalize wq.alloc (.cells (frl (dG n)).toArray 26)=W0 at *
 generalize wq.heap.size=g at *
 clear hmk hf1
 go_loopw [15] (fun kv wr=>∃(k:Nat) (us:List Rq),k≤n∧kv=.int .i64 k∧Hid (EaQ w wr g (Q+1) n k us zs)) (fun kv _=>n-(intOf kv).toNat)
 case atStart=>exact⟨0,dG n,Nat.zero_le _,by go_num,HI0.out⟩
 case round=>
  obtain⟨k,us,hk,rfl,H⟩:=hrel
  rcases Nat.lt_or_ge k n with hlt|hge
  ·have hA:=HX.out.below (dP Q) H.out.bw
   have hel:=hA.el
   obtain⟨b,o,hp,hc⟩:=hA.rl (by omega)
   subst hp
   obtain⟨c0,c1,c2,c3⟩:=hc k (by omega)
   have hv:=hA.ev k hlt
   generalize gr rs0 k=e at *
   have hal:=af (o:=.cells #[.bool e.s,.slice e.p e.n e.c,.bool e.t,.slice e.q e.m e.d] 26) (Below.refl wr.heap.size wr)
   have hcall:=we ((dP Q).below hv hal) (by omega)
   have hul:=H.out.ul
   clear hc hv hA hel
   go_wp2_with fail
   refine hcall.mono ?_
   rintro r w1 ⟨s1,p1,n1,t1,q1,m1,rfl,hu,hF1,hF2,hb1⟩
   have hb2:=ae hal hb1
   have hR1:=H.out.row.below hb2
   obtain⟨d0,d1,d2,d3⟩:=hR1.cell k (by omega)
   have f0:=hR1.frozen (k*4)
   have f1:=hR1.frozen (k*4+1)
   have f2:=hR1.frozen (k*4+2)
   have f3:=hR1.frozen (k*4+3)
   have h9:=H.out.row.lt
   have h8:=hal.size
   have HI:Hid _:=H.out.step (u:=⟨s1,p1,n1,n1,t1,q1,m1,m1⟩) hlt hb2 hu ⟨fun h0 a ha=>by have:=hF1 h0 a ha;omega,fun h0 a ha=>by have:=hF2 h0 a ha;omega⟩
   clear hcall hu hF1 hF2 hb1 hb2 hR1 hal c0 c1 c2 c3 H
   go_wp2
   go_roundw
   case rel=>exact⟨k+1,us.set k _,by omega,by go_num,HI.out⟩
   case measure=>simp[intOf];omega
  ·obtain rfl:k=n:=by omega
   have hA:=HX.out.below (dP Q) H.out.bw
   have HF:Hid (WA (EQa (Q+1)) wr (some ⟨g,0,none⟩) k k us zs∧Below w.heap.size w wr∧w.heap.size≤g):=⟨⟨H.out.ul,hA.zl,Nat.le_refl _,Nat.le_trans hA.cap hA.bnd,nofun,H.out.row.rl,H.out.ev⟩,H.out.bw,H.out.wg⟩
   clear hA H hge
   go_wp2
   go_ret
   exact⟨_,us,rfl,HF.out.1,fun _ a ha=>by cases ha;exact HF.out.2.2,HF.out.2.1⟩
theorem zG(a:Int)(w:World)(h0:-9223372036854775808≤a)(h1:a≤9223372036854775807):Calls Tryz.prog 64 #[.int .i64 a] w fun r w'=>∃u:Ent,r=.returned (.agg #[.bool u.s,.slice u.p u.n u.c])∧NV w.heap.size w' 2 a u∧Below w.heap.size w w':=by
 refine(xK a w h0 h1).mono ?_
 rintro e w' ⟨s',p',n',zs,rfl,g1,g2,g3⟩
 exact⟨⟨s',p',n',n'⟩,rfl,⟨zs,g1,rfl,g2⟩,g3⟩
def dw(n:Nat):Nat→Int
 |0=>1
 |j+1=>dw n j*(-((n:Int)-j))/((j:Int)+1)
theorem xW:∀n,n<9→∀j,j<10→(dw n j).natAbs<100∧(j≤n→dw n j≠0):=by decide +kernel
theorem DU{n j:Nat}(hn:n≤8)(hj:j≤n+1):((dw n j).natAbs:Int)<pw 1:=by
 have h:=(xW n (by omega) j (by omega)).1
 have e:pw 1=4294967296:=by decide
 rw[e]
 omega
def dX(n:Nat):List (List Int):=(List.range (n+1)).map fun r=>[dw n (n-r)]
theorem B7{B:Nat}{V V':World}{K:Nat}{z:Int}{e:Ent}(h:NV B V K z e)(hs:V.heap.size≤V'.heap.size)(hb:0<e.n→∀a,e.p=some a→V'.heap[a.block]?=V.heap[a.block]?):NV B V' K z e:=by
 obtain⟨xs,k,h2⟩:=h
 rcases Nat.eq_zero_or_pos e.n with h0|h0
 ·have hp:=k.pn h0
  refine⟨xs,⟨k.len,fun hx=>?_,k.u,k.nrm,k.sg,k.pn,k.v,k.fr,fun a ha=>?_⟩,h2⟩
  ·rw[k.len] at hx
   omega
  ·rw[hp] at ha
   cases ha
 ·refine⟨xs,⟨k.len,k.rd.same fun a ha _=>hb h0 a ha,k.u,k.nrm,k.sg,k.pn,k.v,k.fr,fun a ha=>⟨Nat.lt_of_lt_of_le (k.fz a ha).1 hs,fun i=>?_⟩⟩,h2⟩
  have h4:=(k.fz a ha).2 i
  have h3:=hb h0 a ha
  simp only[World.frozen?] at h4 ⊢
  rw[h3]
  exact h4
theorem jR{B:Nat}{V:World}{K:Nat}{z:Int}{e:Ent}(h:NV B V K z e){g o:Nat}(v:Value)(hc:∀(o:Nat) (y:Int),V.cell? ⟨g,o,none⟩≠some (.int .u32 y)):NV B (V.setCell ⟨g,o,none⟩ v) K z e:=
 B7 h (by simp[World.setCell]) fun hn a ha=>heap_setCell_other V ⟨g,o,none⟩ a.block v fun hg=>by
  obtain⟨xs,k,h2⟩:=h
  have hx:0<xs.length:=by rw[k.len];exact hn
  obtain⟨b,o,hp,hcl⟩:=k.rd hx
  rw[hp] at ha
  cases ha
  simp only at hg
  subst hg
  exact hc _ _ (hcl 0 hx)
theorem uZ{B:Nat}{V:World}{K:Nat}{z:Int}{e:Ent}(h:NV B V K z e){g:Nat}{t:TypeId}{s:Bool}{p:Option Addr}{n c:Nat}(hb:V.heap[g]?=some (.cells #[.bool s,.slice p n c] t (0,0)))(s':Bool)(p':Option Addr)(n' c':Nat):NV B ((V.setCell ⟨g,0,none⟩ (.bool s')).setCell ⟨g,1,none⟩ (.slice p' n' c')) K z e:=by
 have no:∀{W:World} {s:Bool} {p:Option Addr} {n c:Nat},W.heap[g]?=some (.cells #[.bool s,.slice p n c] t (0,0))→∀(o:Nat) (y:Int),W.cell? ⟨g,o,none⟩≠some (.int .u32 y):=fun {W s p n c} h o y hc=>by
  rw[cell_of_row W g o _ t (0,0) h] at hc
  match o with
  |0=>cases hc
  |1=>cases hc
  |o+2=>simp at hc
 exact jR (jR h _ (no hb)) _ (no (heap_setCell_same V g 0 _ _ (.bool s') hb))
structure DfI(w wr:World)(g gc n k:Nat)(z:Int)(hs:List Hdr)(u:Ent):Prop where
 row:HB wr g hs
 hl:hs.length=n+1
 ev:∀r,k≤r→r≤n→∃b e,gh hs r=⟨some ⟨b,0,none⟩,1,1⟩∧gc<b∧wr.heap[b]?=some (.cells #[.bool (Ent.s e),.slice e.p e.n e.c] 24 (0,0))∧NV (g+1) wr 1 (dw n (n-r)) e
 bc:wr.heap[gc]?=some (.cells #[.bool u.s,.slice u.p u.n u.c] 24 (0,0))
 v:NV (g+1) wr 1 z u
 gg:g<gc
 wg:w.heap.size≤g
 bw:Below w.heap.size w wr
theorem DfI.later{w wr w':World}{g gc n k:Nat}{z:Int}{hs:List Hdr}{u:Ent}(h:DfI w wr g gc n k z hs u)(hb:Below wr.heap.size wr w'):DfI w w' g gc n k z hs u:=
 ⟨h.row.below hb h.row.lt,h.hl,fun r h1 h2=>let ⟨b,e,a1,a2,a3,a4⟩:=h.ev r h1 h2;⟨b,e,a1,a2,(hb.block b (Array.getElem?_eq_some_iff.1 a3).1).trans a3,a4.below hb⟩,(hb.block gc (Array.getElem?_eq_some_iff.1 h.bc).1).trans h.bc,h.v.below hb,h.gg,h.wg,ae h.bw hb⟩
theorem wG{V:World}{g:Nat}{hs:List Hdr}(h:HB V g hs)(o:Nat)(y:Int):V.cell? ⟨g,o,none⟩≠some (.int .u32 y):=fun hc=>by
 by_cases hl:o<hs.length
 ·rw[h.cell o hl] at hc
  cases hc
 ·have h1:=cell_of_row V g o _ _ _ h
  rw[h1] at hc
  simp[hl] at hc
theorem DfI.put1{w wr:World}{g gc n j:Nat}{hs:List Hdr}{u:Ent}(h:DfI w wr g gc n (j+1) (dw n (n-j)) hs u)(hj:j≤n):DfI w ((wr.alloc (.cells #[.bool u.s,.slice u.p u.n u.c] 24)).setCell ⟨g,j,none⟩ (.slice (some ⟨wr.heap.size,0,none⟩) 1 1)) g gc n j (dw n (n-j)) (hs.set j ⟨some ⟨wr.heap.size,0,none⟩,1,1⟩) u:=by
 have hgl:=h.row.lt
 have hcl:=(Array.getElem?_eq_some_iff.1 h.bc).1
 have hb:=af (o:=.cells #[.bool u.s,.slice u.p u.n u.c] 24) (Below.refl wr.heap.size wr)
 have hW:=h.later hb
 have hnew:=cV wr (.cells #[.bool u.s,.slice u.p u.n u.c] 24)
 have hgg:=h.gg
 refine⟨hW.row.set j ⟨some ⟨wr.heap.size,0,none⟩,1,1⟩,by rw[List.length_set];exact h.hl,fun r h1 h2=>?_,?_,jR hW.v _ (wG hW.row),h.gg,h.wg,hW.bw.setCell (p:=⟨g,j,none⟩) h.wg _⟩
 ·by_cases e:r=j
  ·subst e
   rw[ss _ _ _ _ (by rw[h.hl];omega),if_pos rfl]
   refine⟨wr.heap.size,u,rfl,hcl,?_,jR hW.v _ (wG hW.row)⟩
   rw[heap_setCell_other _ _ _ _ (by show wr.heap.size≠g;omega)]
   exact hnew
  ·obtain⟨b,e',a1,a2,a3,a4⟩:=hW.ev r (by omega) h2
   rw[ss _ _ _ _ (by rw[h.hl];omega),if_neg e]
   refine⟨b,e',a1,a2,?_,jR a4 _ (wG hW.row)⟩
   rw[heap_setCell_other _ _ _ _ (by show b≠g;omega)]
   exact a3
 ·rw[heap_setCell_other _ _ _ _ (by show gc≠g;omega)]
  exact hW.bc
theorem DfI.put2{w wr:World}{g gc n k:Nat}{z z':Int}{hs:List Hdr}{u q:Ent}(h:DfI w wr g gc n k z hs u)(hq:NV (g+1) wr 1 z' q):DfI w ((wr.setCell ⟨gc,0,none⟩ (.bool q.s)).setCell ⟨gc,1,none⟩ (.slice q.p q.n q.c)) g gc n k z' hs q:=by
 have hgg:=h.gg
 have hwg:=h.wg
 have oth:∀b,b≠gc→((wr.setCell ⟨gc,0,none⟩ (.bool q.s)).setCell ⟨gc,1,none⟩ (.slice q.p q.n q.c)).heap[b]?=wr.heap[b]?:=fun b hb=>by
  rw[heap_setCell_other _ _ _ _ hb,heap_setCell_other _ _ _ _ hb]
 refine⟨(oth g (by omega)).trans h.row,h.hl,fun r h1 h2=>?_,?_,uZ hq h.bc _ _ _ _,hgg,hwg,c8 h.bw (by omega) _ _⟩
 ·obtain⟨b,e',a1,a2,a3,a4⟩:=h.ev r h1 h2
  exact⟨b,e',a1,a2,(oth b (by omega)).trans a3,uZ a4 h.bc _ _ _ _⟩
 ·exact heap_setCell_same _ gc 1 _ _ (.slice q.p q.n q.c) (heap_setCell_same wr gc 0 _ _ (.bool q.s) h.bc)
theorem DfI.no{w wr:World}{g gc n:Nat}{z:Int}{hs:List Hdr}{u:Ent}(h:DfI w wr g gc n 0 z hs u)(hn:n≤8):NO w.heap.size wr 2 1 (dX n) (some ⟨g,0,none⟩) (n+1) hs:=by
 refine⟨h.hl,by simp[dX],fun hp=>⟨g,0,rfl,fun j hj=>by rw[Nat.zero_add];exact h.row.cell j hj⟩,fun a ha=>by cases ha;exact h.wg,fun j hj=>?_⟩
 obtain⟨b,e,a1,a2,a3,a4⟩:=h.ev j (Nat.zero_le _) (by omega)
 have e1:gt (dX n) j=[dw n (n-j)]:=by simp[gt,dX,hj]
 have hgg:=h.gg
 have hwg:=h.wg
 rw[a1,e1]
 refine⟨rfl,Nat.le_refl _,[e],rfl,rfl,?_,fun _=>⟨b,0,rfl,fun i hi=>?_⟩,fun a ha=>by cases ha;show w.heap.size≤b;omega,fun i hi=>?_⟩
 ·have h0:=(xW n (by omega) (n-j) (by omega)).2 (by omega)
  exact cP _ 1 (fun i hi=>by cases i with|zero=>omega|succ i=>simp[gx]) (.inr h0)
 ·obtain rfl:i=0:=by simp at hi;omega
  exact⟨by rw[cell_of_row wr b _ _ _ _ a3];rfl,by rw[cell_of_row wr b _ _ _ _ a3];rfl⟩
 ·obtain rfl:i=0:=by have h9:i<1:=hi;omega
  obtain⟨xs,k1,k2,k3⟩:=a4.mono (show w.heap.size≤g+1 by omega)
  exact⟨xs,k1,k2,Nat.le_trans k3 (by decide)⟩
end Go.Proofs.YtfnkomoickanfaaGreatDoor
