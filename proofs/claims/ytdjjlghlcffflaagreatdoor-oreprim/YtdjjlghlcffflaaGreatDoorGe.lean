/- Own. -/
import Derived.Test.YtdjjlghlcffflaaGreatDoorDd
set_option linter.unusedVariables false
set_option linter.unusedSimpArgs false
set_option maxHeartbeats 8000000
set_option maxRecDepth 100000
namespace Go.Proofs.YtdjjlghlcffflaaGreatDoor
open Go.RowKit
def Good(a b aa ab ba bb:Int):Prop:=
 -1073741824<aa/\aa<1073741824/\-1073741824<ab/\ab<1073741824/\-1073741824<ba/\ba<1073741824/\-1073741824<bb/\bb<1073741824/\0<=ba*a+bb*b/\ba*a+bb*b<aa*a+ab*b/\aa*a+ab*b<=b/\Int.gcd (aa*a+ab*b) (ba*a+bb*b)=Int.gcd a b
def Hn(a b:Int)(w:World)(e:Ending)(w':World):Prop:=
 ∃(aa ab ba bb:Int) (ok:Bool),e=.returned (.tuple #[.agg #[.int .i64 aa,.int .i64 ab,.int .i64 ba,.int .i64 bb],.bool ok])/\(ok=true->Good a b aa ab ba bb)/\Below w.heap.size w w'
variable {x:Int}
theorem nS(h0:0<x)(h1:x<4294967296):1<=Lib.bitLen x.toNat/\Lib.bitLen x.toNat<=32/\IB (Lib.bitLen x.toNat) x:=by
 have hib:=ig 64 x.toNat (by omega)
 have e:((x.toNat:Nat):Int)=x:=by omega
 rw[e] at hib
 have hb:IB (Lib.bitLen x.toNat) x:=hib;refine⟨?_,?_,hb⟩
 ·rcases Jw (Lib.bitLen x.toNat) with hz|hz
  ·have h2:=hb.2.1
   rw[hz] at h2
   have e0:(2:Int)^0=1:=rfl;rw[e0] at h2;omega
  ·exact hz
 ·rcases Ju 32 (Lib.bitLen x.toNat) with hz|hz
  ·exfalso
   rcases hb.2.2 with h2|h2
   ·omega
   ·have h3:=eQ (show 32<=Lib.bitLen x.toNat-1 by omega)
    have e0:(2:Int)^32=4294967296:=rfl;omega
  ·exact hz
variable {xs:List Int} {n:Nat}
theorem Fb(hU:U32 xs)(hl:xs.length=n+1)(ht:0<gx xs n):IB (32*n+Lib.bitLen (gx xs n).toNat) (val xs):=by
 obtain⟨h1,h2,h3⟩:=nS ht (hU n).2;have ev:val xs=val (xs.take n)+2^(32*n)*gx xs n:=by
  rw[<-vJ,<-aD xs n (by omega),Jv (by omega)]
 rw[ev];refine IB.join h3 (by omega) (ar (an hU _)) ?_
 have:=bN (an hU n);rw[List.length_take,Nat.min_eq_left (by omega),vJ] at this
 exact this
structure Lp(a b F P0 Q0:Int)(w W wr:World)(gu gv:Nat)(ev:Bool)(p q s0 s1 s2 t0 t1 t2:Int):Prop where
 la:La a b F P0 Q0 (if ev then -1 else 1) p q s0 s1 s2 t0 t1 t2
 ru:Row wr gu 200 .u64 [s0,s1,s2]
 rv:Row wr gv 200 .u64 [t0,t1,t2]
 bl:Below W.heap.size W wr
theorem C4{a b:Int}{f:Nat}(hI:IB (f+60) a)(hb0:0<=b)(hle:b<=a):0<a/2^f/\a/2^f<1152921504606846976/\0<=b/2^f/\b/2^f<=a/2^f/\b<2^f*1152921504606846976/\a<2^f*1152921504606846976:=by
 obtain⟨h0,h1,h2⟩:=hI;have hP:(0:Int)<2^f:=Int.pow_pos (by decide)
 have e1:(2:Int)^(f+60)=2^f*1152921504606846976:=by rw[Int.pow_add];rfl
 rw[e1] at h1
 have h3:(2:Int)^f<=a:=by
  rcases h2 with h2|h2
  ·omega
  ·have:=xV (show f<=f+60-1 by omega);omega
 refine⟨(Int.le_ediv_iff_mul_le hP).2 (by omega),Int.ediv_lt_of_lt_mul hP (by rw[JI];exact h1),Int.ediv_nonneg hb0 (by omega),Int.ediv_le_ediv hP hle,by omega,h1⟩
theorem nJ(p q:Option Addr)(n nc m mc:Nat)(xs ys:List Int)(w:World)(hl:xs.length=n+1)(hn:n<=100000)(hn2:2<=n)(hX:Rd w p .u32 xs)(hU:U32 xs)(ht:0<gx xs n)(hly:ys.length=m)(hm:m<=100000)(hY:Rd w q .u32 ys)(hUy:U32 ys)(hle:val ys<=val xs):
  Calls Tryz.prog 175 #[.slice p (n+1) nc,.slice q m mc] w (Hn (val xs) (val ys) w):=by
 obtain⟨L0,L1,LB⟩:=nS ht (hU n).2;have hB:=Fb hU hl ht;obtain⟨x0,x1⟩:=hU n;have hbw:Below w.heap.size w (w.alloc (.cells #[.int .i64 0,.int .i64 0,.int .i64 0,.int .i64 0] 175)):=(Jt _ _).alloc (Jr _) _;have hX1:=hX.below hbw;have hY1:=hY.below hbw;obtain⟨b,off0,rfl,hcell⟩:=hX1 (by omega)
 have hc:=hcell n (by omega)
 clear hcell;have hlen:=nO (gx xs n);generalize hLe:Lib.bitLen (gx xs n).toNat=L at *
 clear hLe LB;obtain⟨i,off,hof,hfr⟩:∃i off:Nat,off<32/\32*i+off+60=32*n+L:=⟨(32*n+L-60)/32,(32*n+L-60)%32,by omega,by omega⟩
 have HB:Hid (IB (32*i+off+60) (val xs)):=by rw[hfr];exact hB
 have HF:Hid (32*i+off+60=32*n+L/\xs.length=n+1/\ys.length=m):=⟨hfr,hl,hly⟩;clear hB hfr hl hly;go_enter Tryz.func175,Tryz.ntmps175;go_wp2_with fail;have hBr:(w.alloc (.cells #[.int .i64 0,.int .i64 0,.int .i64 0,.int .i64 0] 175)).heap[w.heap.size]?=some (.cells #[.int .i64 0,.int .i64 0,.int .i64 0,.int .i64 0] 175 (0,0)):=heap_alloc_new w _;have hsz:w.heap.size<(w.alloc (.cells #[.int .i64 0,.int .i64 0,.int .i64 0,.int .i64 0] 175)).heap.size:=by simp
 generalize (w.alloc (.cells #[.int .i64 0,.int .i64 0,.int .i64 0,.int .i64 0] 175))=W at *
 refine(hlen _ x0 (by omega)).mono ?_
 rintro e w1 ⟨rfl,rfl⟩;clear hlen;obtain⟨p1,p2,p3,p4,p5,p6⟩:=C4 HB.out (ar hUy) hle;have bf1:=nT (some ⟨b,off0,none⟩) (n+1) nc xs i off w1 HF.out.2.1 (by omega) hX1 hU (by have:=HF.out;omega) hof p6
 rw[show 32*(i:Int)+(off:Int)=32*(n:Int)+(L:Int)-60 by have:=HF.out;omega] at bf1
 have bf2:=fun W hY=>nT q m mc ys i off W HF.out.2.2 (by omega) hY hUy (by have:=HF.out;omega) hof p5
 rw[show 32*(i:Int)+(off:Int)=32*(n:Int)+(L:Int)-60 by have:=HF.out;omega] at bf2
 have hF:(0:Int)<2^(32*i+off):=Int.pow_pos (by decide)
 have ea:=Int.emod_add_mul_ediv (val xs) (2^(32*i+off));have ea0:=Int.emod_nonneg (val xs) (show(2:Int)^(32*i+off)≠0 by omega)
 have ea1:=JK (val xs) hF;have eb:=Int.emod_add_mul_ediv (val ys) (2^(32*i+off));have eb0:=Int.emod_nonneg (val ys) (show(2:Int)^(32*i+off)≠0 by omega)
 have eb1:=JK (val ys) hF;generalize val xs%2^(32*i+off)=al at *
 generalize val ys%2^(32*i+off)=be at *
 generalize val xs/2^(32*i+off)=P0 at *
 generalize val ys/2^(32*i+off)=Q0 at *
 clear p5 p6;generalize (2:Int)^(32*i+off)=F at *
 have HE:Hid (0<F/\val xs=P0*F+al/\val ys=Q0*F+be/\0<=al/\al<F/\0<=be/\be<F):=⟨hF,by rw[JI P0];omega,by rw[JI Q0];omega,ea0,ea1,eb0,eb1⟩
 clear hF ea ea0 ea1 eb eb0 eb1 HB;go_wp2_with fail;refine bf1.mono ?_;rintro e w2 ⟨rfl,hb2⟩;clear bf1;go_wp2_with fail;refine(bf2 _ (hY1.below hb2)).mono ?_;rintro e w3 ⟨rfl,hb3⟩;clear bf2;have hb13:=ae hb2 hb3;have hBr3:=(hb13.block w.heap.size hsz).trans hBr;have hbw3:=hbw.trans (hb13.mono hbw.size);have hsz3:w.heap.size<w3.heap.size:=JE hsz hb13.size;clear hb2 hb3 hb13 hBr hbw hsz hX hY hX1 hY1 hc;go_wp2;have hru:Row ((w3.alloc (.cells #[.int .u64 0,.int .u64 1,.int .u64 0] 200)).alloc (.cells #[.int .u64 0,.int .u64 0,.int .u64 1] 200)) w3.heap.size 200 .u64 [0,1,0]:=(Row.new w3 200 .u64 [0,1,0]).alloc _;have hrv:Row ((w3.alloc (.cells #[.int .u64 0,.int .u64 1,.int .u64 0] 200)).alloc (.cells #[.int .u64 0,.int .u64 0,.int .u64 1] 200)) (w3.heap.size+1) 200 .u64 [0,0,1]:=Row.oy w3 _ 200 .u64 [0,0,1];have hb4:Below w3.heap.size w3 ((w3.alloc (.cells #[.int .u64 0,.int .u64 1,.int .u64 0] 200)).alloc (.cells #[.int .u64 0,.int .u64 0,.int .u64 1] 200)):=ag (ag (Jt _ _));generalize ((w3.alloc (.cells #[.int .u64 0,.int .u64 1,.int .u64 0] 200)).alloc (.cells #[.int .u64 0,.int .u64 0,.int .u64 1] 200))=W4 at *
 have hL0:Lp (val xs) (val ys) F P0 Q0 w w3 W4 w3.heap.size (w3.heap.size+1) false P0 Q0 0 1 0 0 0 1:=⟨La.start p3 p4,hru,hrv,hb4⟩;have HL0:Hid (Lp (val xs) (val ys) F P0 Q0 w w3 W4 w3.heap.size (w3.heap.size+1) false P0 Q0 0 1 0 0 0 1):=hL0;clear hru hrv hb4 hL0;go_loopw [8,9,12] (fun pv qv ev wr=>∃(e:Bool) (p q s0 s1 s2 t0 t1 t2:Int),pv=.int .u64 p/\qv=.int .u64 q/\ev=.bool e/\0<p/\p<=P0/\0<=q/\q<=p/\Hid (Lp (val xs) (val ys) F P0 Q0 w w3 wr w3.heap.size (w3.heap.size+1) e p q s0 s1 s2 t0 t1 t2)) (fun _ qv _ _=>(intOf qv).toNat)
 case atStart=>exact⟨false,P0,Q0,0,1,0,0,0,1,rfl,rfl,rfl,p1,Int.le_refl _,p3,p4,HL0.out⟩
 case round=>
  obtain⟨ev,p,q,s0,s1,s2,t0,t1,t2,rfl,rfl,rfl,hp0,hp1,hq0,hq1,H⟩:=hrel;have hla:=H.out.la;obtain⟨d1,d2,d3,d4,d5,d6,d7,d8⟩:=hla.bd hp0 p2;have n1:=hla.s1n;have n2:=hla.s2n;have n3:=hla.t1n;have n4:=hla.t2n;have u0:=H.out.ru.cell 0 (by simp)
  have u1:=H.out.ru.cell 1 (by simp)
  have u2:=H.out.ru.cell 2 (by simp)
  have v0:=H.out.rv.cell 0 (by simp)
  have v1:=H.out.rv.cell 1 (by simp)
  have v2:=H.out.rv.cell 2 (by simp)
  have fu0:=H.out.ru.frozen 0;have fu1:=H.out.ru.frozen 1;have fu2:=H.out.ru.frozen 2;have fv0:=H.out.rv.frozen 0;have fv1:=H.out.rv.frozen 1;have fv2:=H.out.rv.frozen 2;rw[show gx [s0,s1,s2] 0=s0 from rfl] at u0
  rw[show gx [s0,s1,s2] 1=s1 from rfl] at u1
  rw[show gx [s0,s1,s2] 2=s2 from rfl] at u2
  rw[show gx [t0,t1,t2] 0=t0 from rfl] at v0
  rw[show gx [t0,t1,t2] 1=t1 from rfl] at v1
  rw[show gx [t0,t1,t2] 2=t2 from rfl] at v2
  clear hla;by_cases c:t2<=q/\t1+t2<=p-q
  ·obtain⟨c1,c2⟩:=c
   have hqp:0<q:=by omega
   have hqz:(q==0)=false:=beq_eq_false_iff_ne.2 (by omega)
   have hdv0:0<=p/q:=Int.ediv_nonneg (by omega) (by omega)
   have hdv1:p/q<=p:=Int.ediv_le_self _ (by omega)
   obtain⟨h1,h2,h3,h4,h5,h6,h7⟩:=HE.out;have hst:=H.out.la.step h1 p2 h2 h3 h4 h5 h6 h7 c1 c2;have hrm0:=Int.emod_nonneg p (show q≠0 by omega)
   have hrm1:=JK p hqp;have hbd:=hst.bd hqp p2;have k1:t1+p/q*t2<1152921504606846976:=by have:=hbd.2.2.2.2.2.2.1;omega
   have k2:s1+p/q*s2<1152921504606846976:=by have:=hbd.2.2.2.2.2.2.2;omega
   have k3:=JJ hdv0 n2;have k4:=JJ hdv0 (show 0<=t2 by omega)
   have HS:Hid (La (val xs) (val ys) F P0 Q0 (-(if ev then -1 else 1)) q (p%q) s1 s2 (s1+p/q*s2) t1 t2 (t1+p/q*t2)):=hst
   clear h1 h2 h3 h4 h5 h6 h7 hst hbd;go_wp2;go_region;all_goals go_wp2
   refine⟨⟨!ev,q,p%q,s1,s2,s1+p/q*s2,t1,t2,t1+p/q*t2,rfl,rfl,rfl,hqp,by omega,hrm0,by omega,?_,?_,?_,?_⟩,by simp[intOf];omega⟩
   ·have:=HS.out
    cases ev
    ·exact this
    ·simpa using this
   ·have h1:=((H.out.ru.set 0 s1).set 1 s2).set 2 (s1+p/q*s2)
    exact(((h1.ah ⟨w3.heap.size+1,0,none⟩ _ (by simp)).ah ⟨w3.heap.size+1,1,none⟩ _ (by simp)).ah ⟨w3.heap.size+1,2,none⟩ _ (by simp)).drew
   ·have h1:=((H.out.rv.ah ⟨w3.heap.size,0,none⟩ (.int .u64 s1) (by simp)).ah ⟨w3.heap.size,1,none⟩ (.int .u64 s2) (by simp)).ah ⟨w3.heap.size,2,none⟩ (.int .u64 (s1+p/q*s2)) (by simp)
    exact(((h1.set 0 t1).set 1 t2).set 2 (t1+p/q*t2)).drew
   ·have h1:=((H.out.bl.setCell (p:=⟨w3.heap.size,0,none⟩) (Jr _) (.int .u64 s1)).setCell (p:=⟨w3.heap.size,1,none⟩) (Jr _) (.int .u64 s2)).setCell (p:=⟨w3.heap.size,2,none⟩) (Jr _) (.int .u64 (s1+p/q*s2))
    exact(((h1.setCell (p:=⟨w3.heap.size+1,0,none⟩) (by simp) _).setCell (p:=⟨w3.heap.size+1,1,none⟩) (by simp) _).setCell (p:=⟨w3.heap.size+1,2,none⟩) (by simp) _).drew
  ·have HG:Hid (0<t0->if ev then Good (val xs) (val ys) s0 (-t0) (-s1) t1 else Good (val xs) (val ys) (-s0) t0 s1 (-t1)):=fun h=>by
    obtain⟨g1,g2,g3,g4,g5,g6,g7,g8,g9,g10,g11⟩:=H.out.la.done h
    cases ev
    ·have r0:dr (if false=true then -1 else 1) s0 t0 (val xs) (val ys) = -s0*val xs+t0*val ys:=by simp[dr];grind
     have r1:eF (if false=true then -1 else 1) s1 t1 (val xs) (val ys)=s1*val xs + -t1*val ys:=by simp[eF];grind
     rw[r0] at g9 g10 g11
     rw[r1] at g8 g9 g11
     exact⟨by omega,by omega,by omega,by omega,by omega,by omega,by omega,by omega,g8,g9,g10,g11⟩
    ·have r0:dr (if true=true then -1 else 1) s0 t0 (val xs) (val ys)=s0*val xs + -t0*val ys:=by simp[dr];grind
     have r1:eF (if true=true then -1 else 1) s1 t1 (val xs) (val ys) = -s1*val xs+t1*val ys:=by simp[eF];grind
     rw[r0] at g9 g10 g11
     rw[r1] at g8 g9 g11
     exact⟨by omega,by omega,by omega,by omega,by omega,by omega,by omega,by omega,g8,g9,g10,g11⟩
   have hbr:=hbw3.trans (H.out.bl.mono hbw3.size);have hBr4:=(H.out.bl.block w.heap.size hsz3).trans hBr3;have z0:=cell_of_row wr w.heap.size 0 _ _ (0,0) hBr4;have z1:=cell_of_row wr w.heap.size 1 _ _ (0,0) hBr4;have z2:=cell_of_row wr w.heap.size 2 _ _ (0,0) hBr4;have z3:=cell_of_row wr w.heap.size 3 _ _ (0,0) hBr4;have y0:=frozen_of_row wr w.heap.size 0 _ _ hBr4;have y1:=frozen_of_row wr w.heap.size 1 _ _ hBr4;have y2:=frozen_of_row wr w.heap.size 2 _ _ hBr4;have y3:=frozen_of_row wr w.heap.size 3 _ _ hBr4;simp only[List.getElem?_toArray,List.getElem?_cons_zero,List.getElem?_cons_succ] at z0 z1 z2 z3
   have hgr:w.heap.size<wr.heap.size:=JE hsz3 H.out.bl.size;have hgu:w3.heap.size+1<wr.heap.size:=H.out.rv.lt;have HZ:Hid (Row wr w.heap.size 175 .i64 [0,0,0,0]):=hBr4;clear hBr4 hBr3 hbw3 fu0 fu1 fu2 fv0 fv1 fv2;by_cases c1:t2<=q
   ·have c2:¬t1+t2<=p-q:=fun h=>c ⟨c1,h⟩
    clear c
    cases ev
    ·go_wp2
     go_region;all_goals go_wp2
     have hR:=((((HZ.out.set 0 (-s0)).set 1 (t0)).set 2 (s1)).set 3 (-t1)).alloc (.cells #[.int .i64 (-s0),.int .i64 (t0),.int .i64 (s1),.int .i64 (-t1)] 175);have r0:=hR.cell 0 (by simp)
     have r1:=hR.cell 1 (by simp)
     have r2:=hR.cell 2 (by simp)
     have r3:=hR.cell 3 (by simp)
     simp only[List.set_cons_zero,List.set_cons_succ,cJ,d_,show gx [-s0,t0,s1,-t1] 1=t0 from rfl,show gx [-s0,t0,s1,-t1] 2=s1 from rfl,show gx [-s0,t0,s1,-t1] 3 = -t1 from rfl] at r0 r1 r2 r3
     refine bodyPost_ret (v:=.tuple #[.agg #[.int .i64 (-s0),.int .i64 (t0),.int .i64 (s1),.int .i64 (-t1)],.bool (decide (0<t0))]) (by simp[results,Tryz.results175,go_sem,r0,r1,r2,r3]) rfl ⟨-s0,t0,s1,-t1,decide (0<t0),rfl,fun h=>HG.out (of_decide_eq_true h),?_⟩
     exact(((((hbr.setCell (p:=⟨w.heap.size,0,none⟩) (Jr _) _).setCell (p:=⟨w.heap.size,1,none⟩) (Jr _) _).setCell (p:=⟨w.heap.size,2,none⟩) (Jr _) _).setCell (p:=⟨w.heap.size,3,none⟩) (Jr _) _).alloc (by simp;omega) _).drew
    ·go_wp2
     go_region;all_goals go_wp2
     have hR:=((((HZ.out.set 0 (s0)).set 1 (-t0)).set 2 (-s1)).set 3 (t1)).alloc (.cells #[.int .i64 (s0),.int .i64 (-t0),.int .i64 (-s1),.int .i64 (t1)] 175);have r0:=hR.cell 0 (by simp)
     have r1:=hR.cell 1 (by simp)
     have r2:=hR.cell 2 (by simp)
     have r3:=hR.cell 3 (by simp)
     simp only[List.set_cons_zero,List.set_cons_succ,cJ,d_,show gx [s0,-t0,-s1,t1] 1 = -t0 from rfl,show gx [s0,-t0,-s1,t1] 2 = -s1 from rfl,show gx [s0,-t0,-s1,t1] 3=t1 from rfl] at r0 r1 r2 r3
     refine bodyPost_ret (v:=.tuple #[.agg #[.int .i64 (s0),.int .i64 (-t0),.int .i64 (-s1),.int .i64 (t1)],.bool (decide (0<t0))]) (by simp[results,Tryz.results175,go_sem,r0,r1,r2,r3]) rfl ⟨s0,-t0,-s1,t1,decide (0<t0),rfl,fun h=>HG.out (of_decide_eq_true h),?_⟩
     exact(((((hbr.setCell (p:=⟨w.heap.size,0,none⟩) (Jr _) _).setCell (p:=⟨w.heap.size,1,none⟩) (Jr _) _).setCell (p:=⟨w.heap.size,2,none⟩) (Jr _) _).setCell (p:=⟨w.heap.size,3,none⟩) (Jr _) _).alloc (by simp;omega) _).drew
   ·clear c
    cases ev
    ·go_wp2
     go_region;all_goals go_wp2
     have hR:=((((HZ.out.set 0 (-s0)).set 1 (t0)).set 2 (s1)).set 3 (-t1)).alloc (.cells #[.int .i64 (-s0),.int .i64 (t0),.int .i64 (s1),.int .i64 (-t1)] 175);have r0:=hR.cell 0 (by simp)
     have r1:=hR.cell 1 (by simp)
     have r2:=hR.cell 2 (by simp)
     have r3:=hR.cell 3 (by simp)
     simp only[List.set_cons_zero,List.set_cons_succ,cJ,d_,show gx [-s0,t0,s1,-t1] 1=t0 from rfl,show gx [-s0,t0,s1,-t1] 2=s1 from rfl,show gx [-s0,t0,s1,-t1] 3 = -t1 from rfl] at r0 r1 r2 r3
     refine bodyPost_ret (v:=.tuple #[.agg #[.int .i64 (-s0),.int .i64 (t0),.int .i64 (s1),.int .i64 (-t1)],.bool (decide (0<t0))]) (by simp[results,Tryz.results175,go_sem,r0,r1,r2,r3]) rfl ⟨-s0,t0,s1,-t1,decide (0<t0),rfl,fun h=>HG.out (of_decide_eq_true h),?_⟩
     exact(((((hbr.setCell (p:=⟨w.heap.size,0,none⟩) (Jr _) _).setCell (p:=⟨w.heap.size,1,none⟩) (Jr _) _).setCell (p:=⟨w.heap.size,2,none⟩) (Jr _) _).setCell (p:=⟨w.heap.size,3,none⟩) (Jr _) _).alloc (by simp;omega) _).drew
    ·go_wp2
     go_region;all_goals go_wp2
     have hR:=((((HZ.out.set 0 (s0)).set 1 (-t0)).set 2 (-s1)).set 3 (t1)).alloc (.cells #[.int .i64 (s0),.int .i64 (-t0),.int .i64 (-s1),.int .i64 (t1)] 175);have r0:=hR.cell 0 (by simp)
     have r1:=hR.cell 1 (by simp)
     have r2:=hR.cell 2 (by simp)
     have r3:=hR.cell 3 (by simp)
     simp only[List.set_cons_zero,List.set_cons_succ,cJ,d_,show gx [s0,-t0,-s1,t1] 1 = -t0 from rfl,show gx [s0,-t0,-s1,t1] 2 = -s1 from rfl,show gx [s0,-t0,-s1,t1] 3=t1 from rfl] at r0 r1 r2 r3
     refine bodyPost_ret (v:=.tuple #[.agg #[.int .i64 (s0),.int .i64 (-t0),.int .i64 (-s1),.int .i64 (t1)],.bool (decide (0<t0))]) (by simp[results,Tryz.results175,go_sem,r0,r1,r2,r3]) rfl ⟨s0,-t0,-s1,t1,decide (0<t0),rfl,fun h=>HG.out (of_decide_eq_true h),?_⟩
     exact(((((hbr.setCell (p:=⟨w.heap.size,0,none⟩) (Jr _) _).setCell (p:=⟨w.heap.size,1,none⟩) (Jr _) _).setCell (p:=⟨w.heap.size,2,none⟩) (Jr _) _).setCell (p:=⟨w.heap.size,3,none⟩) (Jr _) _).alloc (by simp;omega) _).drew
end Go.Proofs.YtdjjlghlcffflaaGreatDoor
