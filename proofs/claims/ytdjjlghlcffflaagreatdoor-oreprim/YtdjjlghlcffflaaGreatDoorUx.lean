/- Own. -/
import Derived.Test.YtdjjlghlcffflaaGreatDoorGg
import Derived.Shelf.SlicesE.Clone
import Derived.Ground.SlgnProg
set_option linter.unusedVariables false
set_option linter.unusedSimpArgs false
set_option maxHeartbeats 8000000
set_option maxRecDepth 100000
namespace Go.Proofs.YtdjjlghlcffflaaGreatDoor
open Go.RowKit
def RW(w:World)(g:Nat)(t:TypeId)(es:List Ent):Prop:=∃spare:List Value,w.heap[g]?=some (.cells ((es.flatMap fun e=>[Value.bool e.s,.slice e.p e.n e.c])++spare).toArray t (0,0))
section
variable {w w':World} {g:Nat} {t:TypeId} {es:List Ent}
theorem RW.lt(h:RW w g t es):g<w.heap.size:=by
 obtain⟨s,h⟩:=h;exact(Array.getElem?_eq_some_iff.1 h).1
theorem RW.cell(h:RW w g t es)(j:Nat)(hj:j<es.length):w.cell? ⟨g,j*2,none⟩=some (.bool (ge es j).s)/\w.cell? ⟨g,j*2+1,none⟩=some (.slice (ge es j).p (ge es j).n (ge es j).c):=by
 obtain⟨s,h⟩:=h;obtain⟨h1,h2⟩:=gn es j hj;have hl:=fU es;rw[cell_of_row w g (j*2) _ t (0,0) h,cell_of_row w g (j*2+1) _ t (0,0) h];simp only[List.getElem?_toArray];rw[List.getElem?_append_left (by omega),List.getElem?_append_left (by omega)]
 exact⟨h1,h2⟩
theorem RW.frozen(h:RW w g t es)(j:Nat):w.frozen? ⟨g,j,none⟩=false:=by
 obtain⟨s,h⟩:=h;exact frozen_of_row w g j _ t h
theorem RW.set(h:RW w g t es)(j:Nat)(e:Ent)(hj:j<es.length):RW ((w.setCell ⟨g,j*2,none⟩ (.bool e.s)).setCell ⟨g,j*2+1,none⟩ (.slice e.p e.n e.c)) g t (es.set j e):=by
 obtain⟨s,h⟩:=h;refine⟨s,?_⟩;have hl:=fU es;have h1:=heap_setCell_same w g (j*2) _ t (.bool e.s) h;rw[heap_setCell_same _ g (j*2+1) _ t (.slice e.p e.n e.c) h1];simp only[List.setIfInBounds_toArray];rw[List.set_append_left _ _ (by omega),List.set_append_left _ _ (by rw[List.length_set];omega),wF es j e hj]
theorem RW.below{B:Nat}(h:RW w g t es)(hb:Below B w w')(hg:g<B):RW w' g t es:=by
 obtain⟨s,h⟩:=h;exact⟨s,(hb.block g hg).trans h⟩
theorem RW.pl(h:RW w g t es):PL w (some ⟨g,0,none⟩) es:=fun _=>⟨g,0,rfl,fun j hj=>by
 simp only[Nat.zero_add];exact h.cell j hj⟩
theorem RW.ah(h:RW w g t es)(a:Addr)(v:Value)(hne:g≠a.block):RW (w.setCell a v) g t es:=by
 obtain⟨s,h⟩:=h;exact⟨s,(heap_setCell_other w a g v hne).trans h⟩
end
shelf_lay_g SlLaysE0.n41 Slgn 41 at Tryz 139 as Tryz.clonePoly
theorem Ek(es:List Ent):∀u∈es.flatMap (fun e=>[Value.bool e.s,.slice e.p e.n e.c]),u.oneCell'=true:=fun u hu=>by
 obtain⟨e,-,h⟩:=List.mem_flatMap.1 hu;simp at h
 rcases h with rfl|rfl<;>rfl
variable {w:World} {o:Nat} {es:List Ent}
theorem PL.cells{b:Nat}(h:∀j,j<es.length->w.cell? ⟨b,o+j*2,none⟩=some (.bool (ge es j).s)/\w.cell? ⟨b,o+j*2+1,none⟩=some (.slice (ge es j).p (ge es j).n (ge es j).c))(j:Nat)(u:Value)(hj:(es.flatMap fun e=>[Value.bool e.s,.slice e.p e.n e.c])[j]?=some u):w.cell? ⟨b,o+j,none⟩=some u:=by
 have hl:=fU es;have hlt:j<es.length*2:=by
  rw[<-hl];exact(List.getElem?_eq_some_iff.1 hj).1
 obtain⟨g0,g1⟩:=gn es (j/2) (by omega)
 obtain⟨c0,c1⟩:=h (j/2) (by omega)
 rcases Nat.mod_two_eq_zero_or_one j with e|e
 ·have hi:j/2*2=j:=by omega
  rw[hi] at g0 c0
  rw[c0,<-g0,hj]
 ·have hi:j/2*2+1=j:=by omega
  rw[hi] at g1
  rw[Nat.add_assoc,hi] at c1
  rw[c1,<-g1,hj]
noncomputable def apiI:TypeInfo:=(Tryz.prog.info? 50).get (by kernel_rfl)
variable {K n nc:Nat} {p:Option Addr} {zs:List Int}
theorem Ac(h:PA w K p n nc es zs)(hn:n<=1000000)(hn1:1<=n):
  Calls Tryz.prog 139 #[.slice p n nc] w fun r w'=>∃g cap,r=.returned (.slice (some ⟨g,0,none⟩) n cap)/\w.heap.size<=g/\n<=cap/\cap<=maxLen/\RW w' g 50 es/\Below w.heap.size w w':=by
 have hel:=h.el;obtain⟨b,o,rfl,hc⟩:=h.pl (by omega)
 refine(AnyE.slices_Clone Tryz.clonePoly apiI (.agg #[.bool false,.slice none 0 0]) 2 32 (by kernel_rfl) (by kernel_rfl) (by kernel_rfl) (by kernel_rfl) rfl (by decide) Tryz.sizeOf50 b o n nc (es.flatMap fun e=>[Value.bool e.s,.slice e.p e.n e.c]) w (by rw[fU];omega) (by unfold maxLen;omega) (by omega) (PL.cells hc) (Ek es)).mono ?_
 rintro r w' ⟨v,rfl,⟨h1,h2⟩,-,hb⟩;rcases h2 with ⟨-,h0⟩|⟨g,cap,cur,rfl,hg,hr,hc1,hc2,hcs,htk⟩
 ·omega
 ·refine⟨g,cap,rfl,hg,hc1,hc2,⟨cur.toList.drop (n*2),?_⟩,hb⟩
  rw[<-htk,List.take_append_drop];exact hr
structure TR(wr:World)(g g2 T M:Nat)(us:List Ent)(F:Nat->Int):Prop where
 row:RW wr g 50 us
 len:T<=us.length
 ev:∀t,t<T->EV wr M (F t) (ge us t)/\(0<(ge us t).n->Off g (ge us t).p/\Off g2 (ge us t).p)
variable {wr w':World} {g g2 T M:Nat} {us:List Ent}
theorem TR.below{F:Nat->Int}(h:TR wr g g2 T M us F)(hb:Below wr.heap.size wr w'):TR w' g g2 T M us F:=
 ⟨h.row.below hb h.row.lt,h.len,fun t ht=>⟨(h.ev t ht).1.below hb,(h.ev t ht).2⟩⟩
theorem TR.set{F G:Nat->Int}(h:TR wr g g2 T M us F)(t:Nat)(e:Ent)(ht:t<T)(hv:EV wr M (G t) e)(ho:0<e.n->Off g e.p/\Off g2 e.p)(hG:∀s,s<T->s≠t->G s=F s):
  TR ((wr.setCell ⟨g,t*2,none⟩ (.bool e.s)).setCell ⟨g,t*2+1,none⟩ (.slice e.p e.n e.c)) g g2 T M (us.set t e) G:=by
 have hl:=h.len;refine⟨h.row.set t e (by omega),by simpa using hl,fun s hs=>?_⟩
 by_cases he:s=t
 ·subst he
  rw[cR _ _ _ (by omega)]
  exact⟨hv.b8 fun h0=>(ho h0).1,ho⟩
 ·rw[cG _ _ _ _ he,hG s hs he]
  exact⟨(h.ev s hs).1.b8 fun h0=>((h.ev s hs).2 h0).1,(h.ev s hs).2⟩
def tkf(F:Nat->Int)(x:Int)(ys:List Int)(o j t:Nat):Int:=if o<=t/\t<o+j then F t-x*gx ys (t-o) else F t
theorem E5(F:Nat->Int)(x:Int)(ys:List Int)(o t:Nat):tkf F x ys o 0 t=F t:=by rw[tkf,if_neg (by omega)]
theorem E3(F:Nat->Int)(ys:List Int)(o j t:Nat):tkf F 0 ys o j t=F t:=by
 rw[tkf];split<;>simp
theorem E4(F:Nat->Int)(x:Int)(ys:List Int)(o j:Nat):tkf F x ys o (j+1) (o+j)=tkf F x ys o j (o+j)-x*gx ys j:=by
 rw[tkf,tkf,if_pos (by omega),if_neg (by omega),Nat.add_sub_cancel_left]
theorem C2(F:Nat->Int)(x:Int)(ys:List Int)(o j t:Nat)(h:t≠o+j):tkf F x ys o (j+1) t=tkf F x ys o j t:=by
 rw[tkf,tkf];by_cases h1:o<=t/\t<o+j
 ·rw[if_pos (by omega),if_pos h1]
 ·rw[if_neg (by omega),if_neg h1]
variable {v3:World} {u v:Value}
theorem Gg(h:w.grownBy v3 (some g)):w.grownBy ((v3.setCell ⟨g,o,none⟩ u).setCell ⟨g,o+1,none⟩ v) (some g):=aL (aL h _ _) _ _
variable {r j L m mc:Nat} {q:Option Addr} {fs:List Ent} {ys:List Int} {x:Int} {e:Ent}
theorem C0{v2:World}{M':Nat}{us':List Ent}{F:Nat->Int}{e2:Ent}(hT:TR wr g g2 (o+r) M us' (tkf F x ys o j))(hP:PA wr L q m mc fs ys)(hX:Bx wr w.heap.size (.bool e.s) (.slice e.p e.n e.c))(hG:w.grownBy wr (some g))(hv:EV wr K x e)(hxo:0<e.n->Off g e.p)(hq:Off g q)(hqe:∀j,j<m->0<(ge fs j).n->Off g (ge fs j).p)(hgw:g<w.heap.size)(hg2:g2<w.heap.size)(hj:j<r)(hul:us'.length=us.length)(hM:M<=200)
  (hbd:∀t,o<=t->t<o+r->((F t-x*gx ys (t-o)).natAbs:Int)<pw M) (hV2:Below wr.heap.size wr v2) (hb3:Below v2.heap.size v2 v3) (hN:NV v2.heap.size v3 M' (tkf F x ys o j (o+j)-x*gx ys j) e2):
  ∃us'',us''.length=us.length/\TR ((v3.setCell ⟨g,(o+j)*2,none⟩ (.bool e2.s)).setCell ⟨g,(o+j)*2+1,none⟩ (.slice e2.p e2.n e2.c)) g g2 (o+r) M us'' (tkf F x ys o (j+1))/\PA ((v3.setCell ⟨g,(o+j)*2,none⟩ (.bool e2.s)).setCell ⟨g,(o+j)*2+1,none⟩ (.slice e2.p e2.n e2.c)) L q m mc fs ys/\EV ((v3.setCell ⟨g,(o+j)*2,none⟩ (.bool e2.s)).setCell ⟨g,(o+j)*2+1,none⟩ (.slice e2.p e2.n e2.c)) K x e/\Bx ((v3.setCell ⟨g,(o+j)*2,none⟩ (.bool e2.s)).setCell ⟨g,(o+j)*2+1,none⟩ (.slice e2.p e2.n e2.c)) w.heap.size (.bool e.s) (.slice e.p e.n e.c)/\w.grownBy ((v3.setCell ⟨g,(o+j)*2,none⟩ (.bool e2.s)).setCell ⟨g,(o+j)*2+1,none⟩ (.slice e2.p e2.n e2.c)) (some g):=by
 have hb:=ae hV2 hb3;rw[<-E4] at hN
 have hz:((tkf F x ys o (j+1) (o+j)).natAbs:Int)<pw M:=by
  have:=hbd (o+j) (by omega) (by omega)
  rw[tkf,if_pos (by omega)]
  exact this
 have hN':=hN.le hz;have hs:=hV2.size;have hlt:=hT.row.lt;have hwl:=block_lt_of_cell hX.c0;have hoff:0<e2.n->Off g e2.p/\Off g2 e2.p:=fun h0=>by
  obtain⟨xs,k1,-⟩:=hN;exact⟨gF k1.fr (by omega),gF k1.fr (by simp at hwl;omega)⟩
 refine⟨us'.set (o+j) e2,by simpa using hul,?_,(hP.below hb).og (fun _=>hq) hqe,(hv.below hb).b8 hxo,Bb (hX.later hb) (by omega),Gg (c8 hG (c7 hb _))⟩
 exact(hT.below hb).set (o+j) e2 (by omega) (hN'.ev (by omega)) hoff (fun s _ hne=>C2 F x ys o j s hne)
theorem Da{rc:Nat}{F:Nat->Int}(h:TR w g g2 (o+r) M us F)(hg2:g2<w.heap.size)(k:PA w L q m mc fs ys)(hq:Off g q)(hqe:∀j,j<m->0<(ge fs j).n->Off g (ge fs j).p)(hx:EV w K x e)(hxo:0<e.n->Off g e.p)(hrm:r<=m)(hm:m<=1000)(hr:r<=rc)(hrc:rc<=9223372036854775807)(hK:K<80)(hL:L<80)(hM:M<=200)(ho:o<=100000)
  (hbd:∀t,o<=t->t<o+r->((F t-x*gx ys (t-o)).natAbs:Int)<pw M):
  Calls Tryz.prog 142 #[.slice (some ⟨g,o*2,none⟩) r rc,.slice q m mc,.agg #[.bool e.s,.slice e.p e.n e.c]] w fun r' w'=>∃us',r'=.returned (.tuple #[])/\us'.length=us.length/\TR w' g g2 (o+r) M us' (tkf F x ys o r)/\w.grownBy w' (some g):=by
 have hfl:=k.el;have hyl:=k.zl;go_enter Tryz.func142,Tryz.ntmps142;go_wp2_with fail;have hal:=ag (o:=.cells #[.bool e.s,.slice e.p e.n e.c] 50) (Jt w.heap.size w);have hX1:Bx (w.alloc (.cells #[.bool e.s,.slice e.p e.n e.c] 50)) w.heap.size (.bool e.s) (.slice e.p e.n e.c):=Bx.new _ _ _ rfl;have hgw:g<w.heap.size:=h.row.lt;have h1:=h.below hal;have k1:=k.below hal;have hx1:=hx.below hal;generalize w.alloc (.cells #[.bool e.s,.slice e.p e.n e.c] 50)=W1 at *
 refine(sr hx1).mono ?_;rintro r' v1 ⟨rfl,hb1⟩;have hX2:=hX1.later hb1;have hx2:=hx1.below hb1;have h2:=h1.below hb1;have k2:=k1.below hb1;have hB2:=ae hal hb1;clear hX1 hx1 h1 k1 hal hb1 h k hx;have hcs:Hid (x=0\/¬x=0):=Classical.em _;rcases hcs.out with hz|hz
 ·rw[decide_eq_true hz]
  have HZ:Hid (x=0):=hz;have HI:Hid (TR v1 g g2 (o+r) M us F/\Below w.heap.size w v1):=⟨h2,hB2⟩;clear hz hcs h2 k2 hx2 hX2 hB2 hbd hqe;go_wp2
  (try simp only[Exit.inBlock,Exit.then])
  refine bodyPost_ret (results_none rfl _ _ _) rfl ?_;refine⟨us,rfl,rfl,⟨HI.out.1.row,HI.out.1.len,fun t ht=>?_⟩,c7 HI.out.2 _⟩
  rw[HZ.out,E3];exact HI.out.1.ev t ht
 ·rw[decide_eq_false hz]
  clear hz hcs;have HQ:Hid (∀j,j<m->0<(ge fs j).n->Off g (ge fs j).p):=hqe;have HBD:=(show Hid _ from hbd)
  clear hqe hbd;have HA:Hid (PA v1 L q m mc fs ys/\TR v1 g g2 (o+r) M us F/\EV v1 K x e/\Bx v1 w.heap.size (.bool e.s) (.slice e.p e.n e.c)/\Below w.heap.size w v1):=⟨k2,h2,hx2,hX2,hB2⟩;clear k2 h2 hx2 hX2 hB2;go_wp2_with fail;go_loopw [6,11] (fun jv kv wr=>∃j:Nat,j<=r/\kv=.int .i64 j/\Hid (∃us',us'.length=us.length/\TR wr g g2 (o+r) M us' (tkf F x ys o j)/\PA wr L q m mc fs ys/\EV wr K x e/\Bx wr w.heap.size (.bool e.s) (.slice e.p e.n e.c)/\w.grownBy wr (some g))) (fun _ kv _=>r-(intOf kv).toNat)
  case atStart=>exact⟨0,Jz _,by go_num,us,rfl,⟨HA.out.2.1.row,HA.out.2.1.len,fun t ht=>by rw[E5];exact HA.out.2.1.ev t ht⟩,HA.out.1,HA.out.2.2.1,HA.out.2.2.2.1,c7 HA.out.2.2.2.2 _⟩
  case round=>
   clear HA;obtain⟨j,hj,rfl,HJ⟩:=hrel;rcases Ju j r with hlt|hge
   ·obtain⟨us',hul,hT,hP,hv,hX,hG⟩:=HJ.out
    obtain⟨c,s,hq',hd⟩:=hP.pl (by omega)
    subst hq';obtain⟨d0,d1⟩:=hd j (by omega)
    have hu:=hP.ev j (by omega)
    have hTl:=hT.len;have eo:o*2+j*2=(o+j)*2:=by omega
    obtain⟨x0,x1⟩:=hT.row.cell (o+j) (by omega)
    obtain⟨a0,a1,-,-⟩:=id hX;have HE:Hid (TR wr g g2 (o+r) M us' (tkf F x ys o j)/\PA wr L (some ⟨c,s,none⟩) m mc fs ys/\Bx wr w.heap.size (.bool e.s) (.slice e.p e.n e.c)/\w.grownBy wr (some g)):=⟨hT,hP,hX,hG⟩;have hjm:(j:Int)<(m:Int):=by omega
    have hjr:(j:Int)<(r:Int):=by omega
    clear hT hP hX hG HJ hd;go_upto_region 5 with fail
    go_region_with (first
     |(go_at_call 134;refine(Bi hv.drew hu.drew hK).mono ?_;rintro r' v2 ⟨e1,rfl,hN1,hb2⟩;have hV2:=aQ hb2;have hT2:=HE.out.1.below hV2;obtain⟨y0,y1⟩:=hT2.row.cell (o+j) (by omega))
     |(go_at_call 82;refine(Bo (hT2.ev (o+j) (by omega)).1 (hN1.ev (by omega))).mono ?_;rintro r' v3 ⟨e2,rfl,hN2,hb3⟩;have hT3:=hT2.below hb3;obtain⟨z0,z1⟩:=hT3.row.cell (o+j) (by omega);have f0:=hT3.row.frozen ((o+j)*2);have f1:=hT3.row.frozen ((o+j)*2+1)))
    all_goals
     have hstep:=C0 (us:=us) HE.out.1 HE.out.2.1 HE.out.2.2.1 HE.out.2.2.2 hv hxo hq HQ.out hgw hg2 hlt hul hM HBD.out hV2 hb3 hN2;have HST:=(show Hid _ from hstep)
     clear hstep x0 x1 a0 a1 d0 d1 y0 y1 HE hN1 hN2 hT2 hT3 hv hu z0 z1 f0 f1;go_wp2;refine⟨⟨j+1,by omega,by go_num,HST.out⟩,by simp[intOf];omega⟩
   ·obtain rfl:j=r:=by omega
    clear hge;go_wp2;go_end0;obtain⟨us',hul,hT,hP,hv,hX,hG⟩:=HJ.out;exact⟨us',rfl,hul,hT,hG⟩
theorem Eu{a b Q R:Int}(hb:b≠0)(h:Q*b+R=a)(h0:0<=R)(h1:R<(b.natAbs:Int)):Q=a/b/\R=a%b:=by
 have hz:R/b=0:=by
  rcases Int.lt_or_gt_of_ne hb with hn|hp
  ·have:R/(-b)=0:=Int.ediv_eq_zero_of_lt h0 (by omega)
   rw[Int.ediv_neg] at this
   omega
  ·exact Int.ediv_eq_zero_of_lt h0 (by omega)
 have e:a/b=Q:=by
  rw[<-h,Int.add_comm,Int.add_mul_ediv_right _ _ hb,hz,Int.zero_add]
 refine⟨e.symm,?_⟩;have:=Int.emod_def a b;rw[e,JI] at this
 omega
variable {y:Int} {f:Ent}
theorem Bm(h:EV w K x e)(k:EV w L y f)(hy:y≠0)(hK:K<159):Calls Tryz.prog 122 #[.agg #[.bool e.s,.slice e.p e.n e.c],.agg #[.bool f.s,.slice f.p f.n f.c]] w fun r w'=>∃u v:Ent,r=.returned (.tuple #[.agg #[.bool u.s,.slice u.p u.n u.c],.agg #[.bool v.s,.slice v.p v.n v.c],.int .i64 0])/\NV w.heap.size w' (K+3) (x/y) u/\NV w.heap.size w' (K+L+1) (x%y) v/\Below w.heap.size w w':=by
 obtain⟨xs,h1,rfl,h3⟩:=h;obtain⟨ys,k1,rfl,k3⟩:=k;have hv:val ys≠0:=fun e=>hy (by rw[aq,e];simp)
 refine(FY e.s f.s e.p f.p e.n e.c f.n f.c xs ys w h1 k1 (by omega) hv).mono ?_
 rintro r w' ⟨s1,p1,n1,qs,s2,p2,n2,rs,Q,R,g1,g2,g3,g4,g5,g6,g7,g8,g9⟩;obtain⟨rfl,rfl⟩:=Eu hy g4 g5 g6;exact⟨⟨s1,p1,n1,n1⟩,⟨s2,p2,n2,n2⟩,g1,⟨qs,g2,rfl,by show n1<=_;omega⟩,⟨rs,g3,rfl,by show n2<=_;omega⟩,g9⟩
theorem Hq(h:EV w K x e):Calls Tryz.prog 119 #[.agg #[.bool e.s,.slice e.p e.n e.c]] w fun r w'=>∃u:Ent,r=.returned (.agg #[.bool u.s,.slice u.p u.n u.c])/\NV w.heap.size w' K (-x) u/\Below w.heap.size w w':=by
 obtain⟨xs,h1,rfl,h3⟩:=h;refine(FW e.s e.p e.n e.c xs w h1).mono ?_;rintro r w' ⟨s',p',n',zs,g1,g2,g3,g4⟩;have e1:aq (!e.s) xs = -aq e.s xs:=by cases e.s<;>simp[aq]
 rw[e1] at g2
 exact⟨⟨s',p',n',n'⟩,g1,⟨zs,g2,rfl,by show n'<=_;omega⟩,g4⟩
variable {z:Int}
theorem sF(hX:Bx w g (.bool e.s) (.slice e.p e.n e.c))(hy:EV w L y e)(h:EV w K z f)(hy0:y≠0)(hK:K<159):
  Calls Tryz.prog 121 #[.agg #[.bool f.s,.slice f.p f.n f.c],.pointer (some ⟨g,0,none⟩)] w fun r w'=>∃u:Ent,r=.returned (.agg #[.bool u.s,.slice u.p u.n u.c])/\NV w.heap.size w' (K+3) (z/y) u/\Below w.heap.size w w':=by
 obtain⟨a0,a1,-,-⟩:=((hX.alloc (.cells #[.bool f.s,.slice f.p f.n f.c] 50)).alloc (.cells #[.bool false,.slice none 0 0] 50));have hR0:Bx ((w.alloc (.cells #[.bool f.s,.slice f.p f.n f.c] 50)).alloc (.cells #[.bool false,.slice none 0 0] 50)) (w.heap.size+1) (.bool false) (.slice none 0 0):=Bx.new _ _ _ (by simp)
 have hW0:Below w.heap.size w ((w.alloc (.cells #[.bool f.s,.slice f.p f.n f.c] 50)).alloc (.cells #[.bool false,.slice none 0 0] 50)):=((Jt _ _).alloc (Jr _) _).alloc (by simp) _
 go_enter Tryz.func121,Tryz.ntmps121;go_wp2_with fail;generalize (w.alloc (.cells #[.bool f.s,.slice f.p f.n f.c] 50)).alloc (.cells #[.bool false,.slice none 0 0] 50)=W0 at *
 refine(Bm (h.below hW0) (hy.below hW0) hy0 hK).mono ?_;rintro r w1 ⟨u,v,rfl,hN,-,hb1⟩;have sR:w.heap.size+1<W0.heap.size:=block_lt_of_cell hR0.c0;have hal:=ag (o:=.cells #[.bool v.s,.slice v.p v.n v.c] 50) (ag (o:=.cells #[.bool u.s,.slice u.p u.n u.c] 50) (Jt w1.heap.size w1));obtain⟨r0,r1,f0,f1⟩:=(hR0.later hb1).later hal;have HN:Hid (NV W0.heap.size w1 (K+3) (z/y) u):=hN;clear hN a0 a1 hR0;go_wp2;have hB:=ae (ae hW0 hb1) hal;have hN2:=HN.out.below hal;generalize (w1.alloc (.cells #[.bool u.s,.slice u.p u.n u.c] 50)).alloc (.cells #[.bool v.s,.slice v.p v.n v.c] 50)=W2 at *
 refine bodyPost_ret (v:=.agg #[.bool u.s,.slice u.p u.n u.c]) (by simp[results,Tryz.results121,go_sem,r0,r1]) rfl ⟨u,rfl,?_,?_⟩
 ·exact(hN2.b8 (g:=w.heap.size+1) (o:=0) sR _ _).mono hW0.size
 ·exact dD hB (by omega) _ _
def aC(zs:List Int):List Int:=zs.map (· / (if gx zs (zs.length-1)<0 then -(aB zs:Int) else aB zs))
theorem Gj(y:Int)(zs:List Int)(j:Nat):gx (zs.map (· / y)) j=gx zs j/y:=by
 unfold gx;rw[List.getD_eq_getElem?_getD,List.getD_eq_getElem?_getD,List.getElem?_map]
 cases h:zs[j]? with
 |none=>simp
 |some v=>simp
theorem nI(zs:List Int):∀j,j<=zs.length->∀i,i<j->((aB (zs.take j):Nat):Int)∣gx zs i
 |0,_,i,hi=>absurd hi (by omega)
 |j+1,hj,i,hi=>by
  rw[gQ zs j (by omega)]
  rcases Ju i j with h|h
  ·exact Int.dvd_trans (Int.gcd_dvd_left ..) (nI zs j (by omega) i h)
  ·obtain rfl:i=j:=by omega
   exact Int.gcd_dvd_right ..
theorem fj(zs:List Int)(i:Nat):((aB zs:Nat):Int)∣gx zs i:=by
 rcases Ju i zs.length with h|h
 ·have:=nI zs zs.length (Jr _) i h
  rwa [List.take_length] at this
 ·rw[ak zs zs.length (Jr _) i h]
  exact Int.dvd_zero _
theorem l5(h:ad zs=zs.length)(h0:0<zs.length):aB zs≠0:=fun e=>by
 have h1:=aw zs (by omega)
 have h2:=fj zs (ad zs-1);rw[e] at h2
 exact h1 (Int.zero_dvd.1 (by simpa using h2))
def PtP(zs:List Int)(K:Nat)(w:World)(e:Ending)(w':World):Prop:=
 ∃(u:Ent) (p:Option Addr) (n:Nat) (es:List Ent),e=.returned (.tuple #[.agg #[.bool u.s,.slice u.p u.n u.c],.slice p n n])/\NV w.heap.size w' K (aB zs) u/\PN w.heap.size w' K p n es (aC zs)/\Below w.heap.size w w'
variable {P:Int}
theorem zD(h:(z.natAbs:Int)<P):(((z/y)).natAbs:Int)<P:=by
 have:=Int.natAbs_ediv_le_natAbs z y;omega
theorem G0(h:EN w K z e)(hz:z≠0):decide (z<0)=e.s:=by
 obtain⟨xs,h1,h2,h3,h4,h5⟩:=h;have hv:=ar h1.u
 cases hs:e.s<;>rw[hs] at h2<;>simp[aq] at h2<;>simp<;>omega
theorem uV{W3:World}{B0:Nat}{Y:Int}{u:Ent}(s0 s1:Value)(hzl:zs.length=n)(hYe:Y=(if gx zs (zs.length-1)<0 then -(aB zs:Int) else aB zs))(hY0:Y≠0)(hnr:ad zs=n)(hn1:1<=n)(k1:fs.length=n)(k2:PL v3 q fs)(k3:aJ W3.heap.size q)(k4:∀j,j<n->NV W3.heap.size v3 K (gx zs j/Y) (ge fs j))(hN:NV B0 v3 K (aB zs) u)(hB0:w.heap.size<B0)(hB:Below w.heap.size w W3)(hb:Below W3.heap.size W3 v3)(hsz:w.heap.size<W3.heap.size):
  NV w.heap.size ((v3.setCell ⟨w.heap.size,0,none⟩ s0).setCell ⟨w.heap.size,1,none⟩ s1) K (aB zs) u/\PN w.heap.size ((v3.setCell ⟨w.heap.size,0,none⟩ s0).setCell ⟨w.heap.size,1,none⟩ s1) K q n fs (aC zs)/\Below w.heap.size w ((v3.setCell ⟨w.heap.size,0,none⟩ s0).setCell ⟨w.heap.size,1,none⟩ s1):=by
 have hpl:(aC zs).length=n:=by rw[aC,List.length_map,hzl]
 have hgx:∀j,gx (aC zs) j=gx zs j/Y:=fun j=>by rw[aC,Gj,hYe]
 have hoff:Off w.heap.size q:=gF k3 hsz;refine⟨(hN.b8 (o:=0) hB0 _ _).mono (Nat.le_of_lt hB0),⟨k1,hpl,?_,(k2.ah ⟨w.heap.size,0,none⟩ s0 hoff).ah ⟨w.heap.size,1,none⟩ s1 hoff,fun a ha=>JA (Nat.le_of_lt hsz) (k3 a ha),fun j hj=>?_⟩,dD (ae hB hb) (Jr _) _ _⟩
 ·refine aX _ _ (fun j hj=>ak _ _ (by omega) j hj) (.inr ?_)
  rw[hgx];have h1:=aw zs (by omega)
  rw[hnr] at h1
  have h2:=fj zs (n-1);have h3:Y∣gx zs (n-1):=by
   rw[hYe];split
   ·exact Int.neg_dvd.2 h2
   ·exact h2
  intro h4;have:=Int.ediv_mul_cancel h3;rw[h4,Int.zero_mul] at this
  exact h1 this.symm
 ·rw[hgx]
  exact((k4 j hj).b8 (o:=0) hsz _ _).mono (Nat.le_of_lt hsz)
variable {B:Nat}
theorem uU(h:PB B w K p n es zs)(hn:n<=1000000)(hn1:1<=n)(hK:K<150)(hK1:1<=K):
  Calls Tryz.prog 70 #[.slice p n n] w (PtP zs K w):=by
 have hpa:=h.pa hn;have g1:((n:Int)==0)=false:=by rw[beq_eq_false_iff_ne];omega
 have g2:¬(n:Int)=0:=by omega
 go_enter Tryz.func70,Tryz.ntmps70;go_wp2_with fail;have hal0:=ag (o:=.cells #[.bool false,.slice none 0 0] 50) (Jt w.heap.size w);have hR0:Bx (w.alloc (.cells #[.bool false,.slice none 0 0] 50)) w.heap.size (.bool false) (.slice none 0 0):=Bx.new _ _ _ rfl;generalize w.alloc (.cells #[.bool false,.slice none 0 0] 50)=W0 at *
 refine(pZ (hpa.below hal0) hn hK hK1).mono ?_;rintro r w1 ⟨u,rfl,hN,hb1⟩;have hB1:=ae hal0 hb1;have hal:=ag (o:=.cells #[.bool u.s,.slice u.p u.n u.c] 50) (ag (o:=.cells #[.bool u.s,.slice u.p u.n u.c] 50) (Jt w1.heap.size w1));have hC2:Bx ((w1.alloc (.cells #[.bool u.s,.slice u.p u.n u.c] 50)).alloc (.cells #[.bool u.s,.slice u.p u.n u.c] 50)) w1.heap.size (.bool u.s) (.slice u.p u.n u.c):=(Bx.new _ _ _ rfl).alloc _;have hD2:Bx ((w1.alloc (.cells #[.bool u.s,.slice u.p u.n u.c] 50)).alloc (.cells #[.bool u.s,.slice u.p u.n u.c] 50)) (w1.heap.size+1) (.bool u.s) (.slice u.p u.n u.c):=Bx.new _ _ _ (by simp)
 have hR2:=(hR0.later hb1).later hal;have hN2:=hN.below hal;have hB2:=ae hB1 hal;have hP2:=hpa.below hB2;have hE2:=(h.ev (n-1) (by omega)).below hB2
 obtain⟨b,o,hp,hc⟩:=hP2.pl (by rw[h.el];omega)
 subst hp;have c0:=(hc (n-1) (by rw[h.el];omega)).1
 have i1:(n:Int)-1=((n-1:Nat):Int):=by omega
 have i2:((n-1:Nat):Int)<(n:Int):=by omega
 have i3:IntKind.i64.wrap ((n-1:Nat):Int)=((n-1:Nat):Int):=by rw[IntKind.wrap_i64];omega
 clear hc;have hnr:=h.nrm;have hzl:=h.zl;have hg0:=l5 (zs:=zs) (by rw[hnr,hzl]) (by omega)
 have sR:w.heap.size<W0.heap.size:=block_lt_of_cell hR0.c0;have sW:=hb1.size;have hoffD:∀e:Ent,NV W0.heap.size w1 K (aB zs) e->0<e.n->Off (w1.heap.size+1) e.p:=fun e he h0=>by obtain⟨xs,q1,-⟩:=he;exact q1.rd.off (by omega) (by rw[q1.len];exact h0)
 have hsg:=G0 hE2 (by have:=aw zs (by omega);rw[hnr] at this;exact this)
 have hcs:Hid ((ge es (n-1)).s=false\/(ge es (n-1)).s=true):=by cases (ge es (n-1)).s<;>simp[Hid]<;>decide
 rcases hcs.out with hs|hs
 ·rw[hs] at c0 hsg
  clear hs hcs;obtain⟨Y,hYe,hY0⟩:∃Y:Int,Y=(if gx zs (zs.length-1)<0 then -(aB zs:Int) else aB zs)/\Y≠0:=⟨_,rfl,by split<;>omega⟩
  have hYv:Y=aB zs:=by rw[hYe,if_neg (by rw[hzl];simpa using hsg)]
  go_wp2_with fail;have hd3:=hN2.ev (by omega)
  rw[<-hYv] at hd3
  have HYv:Hid (Y=aB zs):=hYv;clear hYv;have hN3:=hN2;generalize (w1.alloc (.cells #[.bool u.s,.slice u.p u.n u.c] 50)).alloc (.cells #[.bool u.s,.slice u.p u.n u.c] 50)=W3 at *
  have hC3:=hC2;have hD3:=hD2;have hR3:=hR2;have hP3:=hP2;have hB3:=hB2;clear hC2 hD2 hR2 hP2 hB2 hN2 c0 hE2 hN hal;have hsz:w.heap.size<W3.heap.size:=block_lt_of_cell hR3.c0;have he:=km K _ _ _ _ _ W3.drew hP3.drew hn 121 #[.pointer (some ⟨w1.heap.size+1,0,none⟩)] callParts (fun w z e=>NV W3.heap.size w K z e) (· / Y) (fun _ _ _ _ h hb=>h.below hb) (fun _ _ _ _ _ _ _ h ho=>h.nw ho)
   (fun w' z e hb hv=>(sF ((Bx.later (w:=W3.drew) ⟨hD3.c0,hD3.c1,hD3.f0,hD3.f1⟩ hb)) (hd3.drew.below hb) hv hY0 (by omega)).mono fun r w'' ⟨u,a,b,c⟩=>⟨u,a,(b.mono hb.size).fit (zD hv.bd),fun _=>.inr (by obtain⟨xs,k,-⟩:=b;exact k.fr),c⟩)
  obtain⟨q0,q1,-,-⟩:=id hC3;go_region_with (go_at_call 120;refine he.mono ?_;rintro r v3 ⟨q,fs,rfl,k1,k2,k3,k4,hb3⟩;have hb3':=aQ hb3;obtain⟨m0,m1,-,-⟩:=hC3.later hb3';obtain⟨r0,r1,f0,f1⟩:=hR3.later hb3');all_goals
   have hfin:=uV (W3:=W3) (.bool u.s) (.slice u.p u.n u.c) hzl hYe hY0 hnr hn1 k1 k2 k3 k4 (hN3.below hb3') sR hB3 hb3' hsz;have HF:=(show Hid _ from hfin)
   clear hfin he k1 k2 k3 k4 hN3 hP3 hD3 hC3 hR3 hd3;go_wp2;refine bodyPost_ret (v:=.tuple #[.agg #[.bool u.s,.slice u.p u.n u.c],.slice q n n]) (by simp[results,Tryz.results70,go_sem,r0,r1]) rfl ?_
   exact⟨u,q,n,fs,rfl,HF.out⟩
 ·rw[hs] at c0 hsg
  clear hs hcs;obtain⟨Y,hYe,hY0⟩:∃Y:Int,Y=(if gx zs (zs.length-1)<0 then -(aB zs:Int) else aB zs)/\Y≠0:=⟨_,rfl,by split<;>omega⟩
  have hYv:Y = -(aB zs:Int):=by rw[hYe,if_pos (by rw[hzl];simpa using hsg)]
  go_wp2_with fail;have hpo:Off (w1.heap.size+1) (some ⟨b,o,none⟩):=hpa.pl.off (by have:=hB1.size;omega) (by rw[h.el];omega)
  have hpe:∀j,j<n->0<(ge es j).n->Off (w1.heap.size+1) (ge es j).p:=fun j hj h0=>by obtain⟨xs,q1,-⟩:=hpa.ev j hj;exact q1.rd.off (by have:=hB1.size;omega) (by rw[q1.len];exact h0)
  have hoffU:=hoffD u hN;have sD:w1.heap.size+1<((w1.alloc (.cells #[.bool u.s,.slice u.p u.n u.c] 50)).alloc (.cells #[.bool u.s,.slice u.p u.n u.c] 50)).heap.size:=by simp
  generalize (w1.alloc (.cells #[.bool u.s,.slice u.p u.n u.c] 50)).alloc (.cells #[.bool u.s,.slice u.p u.n u.c] 50)=W2 at *
  refine(Hq (hN2.ev (by omega))).mono ?_
  rintro r w2 ⟨d,rfl,hM,hb2⟩;rw[<-hYv] at hM
  have HYv:Hid (Y = -(aB zs:Int)):=hYv;clear hYv;have hD2':=hD2.later hb2;obtain⟨t0,t1,t2,t3⟩:=id hD2';have sW1:=hB1.size;have hD3:=eg (x:=.bool d.s) (y:=.slice d.p d.n d.c) hD2';have hC3:=dO (g:=w1.heap.size+1) (x:=.bool d.s) (y:=.slice d.p d.n d.c) (hC2.later hb2) (by omega)
  have hR3:=dO (g:=w1.heap.size+1) (x:=.bool d.s) (y:=.slice d.p d.n d.c) (hR2.later hb2) (by omega)
  have hN3:NV W0.heap.size ((w2.setCell ⟨w1.heap.size+1,0,none⟩ (.bool d.s)).setCell ⟨w1.heap.size+1,1,none⟩ (.slice d.p d.n d.c)) K (aB zs) u:=(hN2.below hb2).nw (o:=0) hoffU;have hd3:EV ((w2.setCell ⟨w1.heap.size+1,0,none⟩ (.bool d.s)).setCell ⟨w1.heap.size+1,1,none⟩ (.slice d.p d.n d.c)) K Y d:=(hM.b8 (o:=0) (u:=.bool d.s) (v:=.slice d.p d.n d.c) sD).ev (by omega)
  have hP3:=(hP2.below hb2).og (g:=w1.heap.size+1) (o:=0) (u:=.bool d.s) (v:=.slice d.p d.n d.c) (fun _=>hpo) hpe
  have hB3:=dD (g:=w1.heap.size+1) (ae hB2 hb2) (by omega) (.bool d.s) (.slice d.p d.n d.c)
  clear hC2 hD2 hR2 hP2 hB2 hN2 c0 hE2 hN hal hD2' hM hpo hpe;go_wp2_with fail;generalize (w2.setCell ⟨w1.heap.size+1,0,none⟩ (.bool d.s)).setCell ⟨w1.heap.size+1,1,none⟩ (.slice d.p d.n d.c)=W3 at *
  have hsz:w.heap.size<W3.heap.size:=block_lt_of_cell hR3.c0;have he:=km K _ _ _ _ _ W3.drew hP3.drew hn 121 #[.pointer (some ⟨w1.heap.size+1,0,none⟩)] callParts (fun w z e=>NV W3.heap.size w K z e) (· / Y) (fun _ _ _ _ h hb=>h.below hb) (fun _ _ _ _ _ _ _ h ho=>h.nw ho)
   (fun w' z e hb hv=>(sF ((Bx.later (w:=W3.drew) ⟨hD3.c0,hD3.c1,hD3.f0,hD3.f1⟩ hb)) (hd3.drew.below hb) hv hY0 (by omega)).mono fun r w'' ⟨u,a,b,c⟩=>⟨u,a,(b.mono hb.size).fit (zD hv.bd),fun _=>.inr (by obtain⟨xs,k,-⟩:=b;exact k.fr),c⟩)
  obtain⟨q0,q1,-,-⟩:=id hC3;go_region_with (go_at_call 120;refine he.mono ?_;rintro r v3 ⟨q,fs,rfl,k1,k2,k3,k4,hb3⟩;have hb3':=aQ hb3;obtain⟨m0,m1,-,-⟩:=hC3.later hb3';obtain⟨r0,r1,f0,f1⟩:=hR3.later hb3');all_goals
   have hfin:=uV (W3:=W3) (.bool u.s) (.slice u.p u.n u.c) hzl hYe hY0 hnr hn1 k1 k2 k3 k4 (hN3.below hb3') sR hB3 hb3' hsz;have HF:=(show Hid _ from hfin)
   clear hfin he k1 k2 k3 k4 hN3 hP3 hD3 hC3 hR3 hd3;go_wp2;refine bodyPost_ret (v:=.tuple #[.agg #[.bool u.s,.slice u.p u.n u.c],.slice q n n]) (by simp[results,Tryz.results70,go_sem,r0,r1]) rfl ?_
   exact⟨u,q,n,fs,rfl,HF.out⟩
end Go.Proofs.YtdjjlghlcffflaaGreatDoor
