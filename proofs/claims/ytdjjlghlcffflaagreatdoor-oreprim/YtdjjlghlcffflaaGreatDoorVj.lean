/- Own. -/
import Derived.Test.YtdjjlghlcffflaaGreatDoorY5
set_option linter.unusedVariables false
set_option linter.unusedSimpArgs false
set_option maxHeartbeats 8000000
set_option maxRecDepth 100000
namespace Go.Proofs.YtdjjlghlcffflaaGreatDoor
open Go.RowKit
variable {w:World} {N:Nat} {x y:Int} {e f:Ent}
theorem CJ(V:Nat->Prop)(h:RE w N x e)(k:RE w N y f)(hN:N<=1000)(hVp:0<e.n->∀a,e.p=some a->V a.block)(hVq:0<f.n->∀a,f.p=some a->V a.block)(hVn:∀b,w.heap.size<=b->V b):
  Calls Tryz.prog 85 #[.agg #[.bool e.s,.slice e.p e.n e.c],.agg #[.bool f.s,.slice f.p f.n f.c]] w fun r w'=>∃u:Ent,r=.returned (.agg #[.bool u.s,.slice u.p u.n u.c])/\RE w' N (Int.gcd x y) u/\(0<u.n->∀a,u.p=some a->V a.block)/\Below w.heap.size w w':=by
 obtain⟨⟨ds,h1,rfl,h3⟩,h4⟩:=h;obtain⟨⟨es,k1,rfl,k3⟩,k4⟩:=k;rw[h4,k4];have e1:Int.gcd (vd ds) (vd es)=Int.gcd (aF e.s ds) (aF f.s es):=by
  rw[jb e.s h1.u,jb f.s k1.u];simp[Int.gcd]
 refine(IN V e.s f.s e.p f.p e.n f.n N ds es w h1 k1 h3 k3 hN hVp hVq hVn).mono ?_;rintro r w' ⟨p',n',ds',g1,g2,g3,g4,g5,g6⟩;rw[e1] at g3
 exact⟨⟨false,p',n',n'⟩,g1,⟨⟨ds',g2,g3,g4⟩,rfl⟩,g6,g5⟩
def RcP(z:Int)(N:Nat)(w:World)(e:Ending)(w':World):Prop:=
 ∃u:Ent,e=.returned (.agg #[.bool u.s,.slice u.p u.n u.c])/\RE w' N z u/\Below w.heap.size w w'
structure CV(w wr:World)(g N:Nat)(z:Int)(u:Ent):Prop where
 b:Bx wr g (.bool u.s) (.slice u.p u.n u.c)
 r:RE wr N z u
 o:0<u.n->Off g u.p/\Off w.heap.size u.p
 rb:Bx wr w.heap.size (.bool false) (.slice none 0 0)
 bw:Below w.heap.size w wr
variable {p:Option Addr} {n nc:Nat} {es:List Ent} {zs:List Int}
theorem jI(h:PR w N p n nc es zs)(hn:n<=100000)(hN:N<=1000)(hN4:4<=N):
  Calls Tryz.prog 86 #[.slice p n nc] w (RcP (aB zs) N w):=by
 have HX:Hid (PR w N p n nc es zs):=h;have hel:=h.el;have hzl:=h.zl;clear h;go_enter Tryz.func86,Tryz.ntmps86;go_wp2_with fail;have hr0:Bx (w.alloc (.cells #[.bool false,.slice none 0 0] 65)) w.heap.size (.bool false) (.slice none 0 0):=Bx.new _ _ _ rfl;have hal0:=ag (o:=.cells #[.bool false,.slice none 0 0] 65) (Jt w.heap.size w);generalize w.alloc (.cells #[.bool false,.slice none 0 0] 65)=W0 at *
 refine(pN 0 W0 (by decide) (by decide)).mono ?_
 rintro e w1 ⟨s1,p1,n1,d1,rfl,hR1,hv1,hn1,hF1,hb1⟩;have hal:=ag (o:=.cells #[.bool s1,.slice p1 n1 n1] 65) (Jt w1.heap.size w1);have hB1:Bx (w1.alloc (.cells #[.bool s1,.slice p1 n1 n1] 65)) w1.heap.size (.bool s1) (.slice p1 n1 n1):=Bx.new _ _ _ rfl;have hw0:w.heap.size<W0.heap.size:=block_lt_of_cell hr0.c0;have hlt:w.heap.size<w1.heap.size:=JE hw0 hb1.size;have hRE:RE w1 N 0 ⟨s1,p1,n1,n1⟩:=⟨⟨d1,hR1,hv1,by show n1<=N;omega⟩,rfl⟩
 have HC:Hid (CV w (w1.alloc (.cells #[.bool s1,.slice p1 n1 n1] 65)) w1.heap.size N (aB (zs.take 0)) ⟨s1,p1,n1,n1⟩):=by
  refine⟨hB1,hRE.below hal,fun h0=>⟨fun a ha e=>?_,fun a ha e=>?_⟩,(hr0.later hb1).later hal,ae (ae hal0 hb1) hal⟩
  ·have:=hRE.lt h0 a ha;omega
  ·have:=hF1 a ha;omega
 clear hr0 hal0 hR1 hv1 hn1 hF1 hb1 hal hB1 hw0 hRE;go_wp2_with fail;generalize w1.alloc (.cells #[.bool s1,.slice p1 n1 n1] 65)=W1 at *
 generalize w1.heap.size=g at *
 go_loopw [4] (fun iv wr=>∃(k:Nat) (u:Ent),k<=n/\iv=.int .i64 k/\Hid (CV w wr g N (aB (zs.take k)) u)) (fun iv _=>n-(intOf iv).toNat)
 case atStart=>exact⟨0,⟨s1,p1,n1,n1⟩,Jz _,by go_num,HC.out⟩
 case round=>
  clear HC;obtain⟨k,u,hk,rfl,H⟩:=hrel;rcases Ju k n with hlt'|hge
  ·have hV:=H.out
   have hP:=HX.out.below hV.bw;obtain⟨b,o,hp,hc⟩:=hP.pl (by omega)
   subst hp;obtain⟨c0,c1⟩:=hc k (by omega)
   have he:=hP.ev k hlt';obtain⟨q0,q1,-,-⟩:=id hV.b;have i1:(k:Int)<(n:Int):=by omega
   have hbg:(0:Nat)<n:=by omega
   have hdr:Below wr.heap.size wr wr.drew:=(Jt _ _).drew;have hlb:b<w.heap.size:=by
    obtain⟨b',o',hb',hl'⟩:=HX.out.pl.lt (by omega)
    cases hb'
    exact hl'
   have hgr:g<wr.heap.size:=block_lt_of_cell q0;have heo:0<(ge es k).n->∀a,(ge es k).p=some a->a.block<w.heap.size:=(HX.out.ev k hlt').lt;have hgc:=CJ (fun x=>x≠g/\x≠w.heap.size) (hV.r.below hdr) (he.below hdr) hN (fun h0 a ha=>⟨(hV.o h0).1 a ha,(hV.o h0).2 a ha⟩) (fun h0 a ha=>by have:=heo h0 a ha;constructor<;>omega) (fun x hx=>by have:wr.heap.size<=x:=hx;constructor<;>omega)
   have HV:Hid (CV w wr g N (aB (zs.take k)) u):=hV;clear hV hP hc he;go_upto_region 5 with fail
   go_region_with ((go_at_call 85;go_fit hgc;rintro r v1 ⟨x,rfl,hRx,hox,hb1⟩;have hB1:=aQ hb1;obtain⟨z0,z1,f0,f1⟩:=HV.out.b.later hB1));all_goals
    have hnx:CV w ((v1.setCell ⟨g,0,none⟩ (.bool x.s)).setCell ⟨g,1,none⟩ (.slice x.p x.n x.c)) g N (aB (zs.take (k+1))) x:=by
     rw[gQ zs k (by omega)]
     refine⟨eg (HV.out.b.later hB1),hRx.b8 (o:=0) (fun h0 a ha e=>(hox h0 a ha).1 e),fun h0=>⟨fun a ha=>(hox h0 a ha).1,fun a ha=>(hox h0 a ha).2⟩,dO (HV.out.rb.later hB1) (by omega),dD (ae HV.out.bw hB1) (by omega) _ _⟩
    have HN:=(show Hid _ from hnx)
    clear hnx hRx hox hgc c0 c1 q0 q1 z0 z1 f0 f1 HV H;go_wp2;refine⟨⟨k+1,x,by omega,by go_num,HN.out⟩,by simp[intOf];omega⟩
  ·obtain rfl:k=n:=by omega
   have hV:=H.out;rw[Jv (by omega)] at hV
   obtain⟨q0,q1,-,-⟩:=id hV.b;obtain⟨r0,r1,f0,f1⟩:=id hV.rb;have HV:Hid (CV w wr g N (aB zs) u):=hV;clear H hV;go_wp2;refine bodyPost_ret (v:=.agg #[.bool u.s,.slice u.p u.n u.c]) (by simp[results,Tryz.results86,go_sem,r0,r1]) rfl ⟨u,rfl,?_,?_⟩
   ·exact HV.out.r.b8 (o:=0) fun h0=>(HV.out.o h0).2
   ·exact dD HV.out.bw (Jr _) _ _
variable {s:Bool}
theorem IQ(h:RV w N x s p n):
  Calls Tryz.prog 144 #[.agg #[.bool s,.slice p n n]] w fun e w'=>∃s',e=.returned (.agg #[.bool s',.slice p n n])/\RV w' N (-x) s' p n/\Below w.heap.size w w':=by
 obtain⟨ds,h1,rfl,h3⟩:=h;refine(GR h1).mono ?_;rintro e w' ⟨s',g1,g2,g3,g4⟩;exact⟨s',g1,⟨ds,g2,g3.out,h3⟩,g4⟩
theorem Gd(b:Bool)(x:Value)(w:World):(Instr.field 65 (.agg #[.bool b,x]) 0).run Tryz.prog w=.ok (.bool b) w:=by kernel_rfl
theorem C3(h:ad zs=zs.length):ad (aC zs)=zs.length:=by
 rcases Jw zs.length with h0|h0
 ·have:zs=[]:=JB h0
  subst this;rfl
 ·have hl:(aC zs).length=zs.length:=by rw[aC,List.length_map]
  refine aX _ _ (fun j hj=>ak _ _ (by omega) j hj) (.inr ?_)
  rw[cW,cE (· / prd zs) (by simp)]
  have h1:=aw zs (by omega)
  rw[h] at h1
  have hg:=l5 h h0;have hy:prd zs≠0:=by unfold prd;split<;>omega
  have hd:prd zs∣gx zs (zs.length-1):=by
   have h2:=fj zs (zs.length-1);unfold prd;split
   ·exact Int.neg_dvd.2 h2
   ·exact h2
  intro h4;have:=Int.ediv_mul_cancel hd;rw[h4,Int.zero_mul] at this
  exact h1 this.symm
theorem ud(zs:List Int)(j:Nat):prd zs∣gx zs j:=by
 have h2:=fj zs j;unfold prd;split
 ·exact Int.neg_dvd.2 h2
 ·exact h2
theorem ni(h:PR w N p n nc es zs)(ht:ad zs=n)(hn:n<=100000)(hN:N<=1000)(hN4:4<=N):
  Calls Tryz.prog 87 #[.slice p n nc] w (PrP (aC zs) N w):=by
 have hzl:=h.zl;rcases Jw n with h0|h0
 ·subst h0
  have:zs=[]:=JB hzl;subst this;go_enter Tryz.func87,Tryz.ntmps87;go_wp2;go_ret;exact⟨none,0,[],rfl,⟨rfl,rfl,Jr _,Jz _,PL.nil,fun j hj=>absurd hj (by omega)⟩,nofun,rfl,Jt _ _⟩
 ·have g1:((n:Int)==0)=false:=by rw[beq_eq_false_iff_ne];omega
  have g2:¬(n:Int)=0:=by omega
  have hlz:gx zs (n-1)≠0:=by have:=aw zs (by omega);rwa [ht] at this
  have hsg:=G1 (h.ev (n-1) (by omega)) hlz
  have HY:Hid (prd zs≠0/\tr (zs.map (· / prd zs))=aC zs/\prd zs=(if gx zs (n-1)<0 then -(aB zs:Int) else aB zs)):=by
   refine⟨?_,?_,by rw[prd,hzl]⟩
   ·have hg:=l5 (zs:=zs) (by rw[ht,hzl]) (by omega)
    unfold prd;split<;>omega
   ·rw[<-cW]
    exact s_ (by rw[C3 (by rw[ht,hzl]),aC,List.length_map])
  have HP:Hid (PR w N p n nc es zs):=h;clear h ht;go_enter Tryz.func87,Tryz.ntmps87;go_wp2_with fail;refine(jI HP.out hn hN hN4).mono ?_;rintro r w1 ⟨u,rfl,hu,hb1⟩;obtain⟨s1,p1,n1,c1⟩:=u;obtain rfl:c1=n1:=hu.2;dsimp only;have hal:=ag (o:=.cells #[.bool s1,.slice p1 c1 c1] 65) (Jt w1.heap.size w1);have hX1:Bx (w1.alloc (.cells #[.bool s1,.slice p1 c1 c1] 65)) w1.heap.size (.bool s1) (.slice p1 c1 c1):=Bx.new _ _ _ rfl;have hlu:=hu.lt;have hu1:=hu.below hal;have hB1:=ae hb1 hal;have hld:=va (HP.out.below hB1) h0 (by omega)
  have hbe:w.heap.size<=w1.heap.size:=hb1.size;have HPL:Hid (∀j,j<n->0<(ge es j).n->Off w1.heap.size (ge es j).p):=fun j hj hn0 a ha e=>by have:=(HP.out.ev j hj).lt hn0 a ha;omega
  have HPP:Hid (Off w1.heap.size p):=fun a ha e=>by
   obtain⟨b,o,hb',hl'⟩:=HP.out.pl.lt (by rw[HP.out.el];omega)
   rw[hb'] at ha
   cases ha
   simp at e
   omega
  clear hu hal hb1;go_wp2_with fail;generalize w1.alloc (.cells #[.bool s1,.slice p1 c1 c1] 65)=W1 at *
  refine hld.mono ?_;rintro r w2 ⟨rfl,hb2⟩;rw[hsg];have hX2:=hX1.later hb2;have hu2:=hu1.below hb2;have hB2:=ae hB1 hb2;obtain⟨q0,q1,f0,f1⟩:=id hX2;have hfd:=Gd;clear hld hX1 hu1 hB1 hb2 hsg;have hcs:Hid (gx zs (n-1)<0\/¬gx zs (n-1)<0):=Classical.em _;rcases hcs.out with hz|hz
  ·rw[decide_eq_true hz]
   have HD:Hid (-(aB zs:Int)=prd zs):=by have:=HY.out.2.2;rw[if_pos hz] at this;exact this.symm
   have hng:=IQ hu2.1;rw[HD.out] at hng
   clear hz hcs;go_wp2_with fail;refine hng.mono ?_;rintro r w3 ⟨s',rfl,hv3,hb3⟩;have hX3:=hX2.later hb3;obtain⟨z0,z1,e0,e1⟩:=id hX3;have hB3:=dD (g:=w1.heap.size) (ae hB2 hb3) hbe (.bool s') (.slice p1 c1 c1);have hX4:=eg (x:=.bool s') (y:=.slice p1 c1 c1) hX3;have hr4:RE ((w3.setCell ⟨w1.heap.size,0,none⟩ (.bool s')).setCell ⟨w1.heap.size,1,none⟩ (.slice p1 c1 c1)) N (prd zs) ⟨s',p1,c1,c1⟩:=RE.b8 (o:=0) ⟨hv3,rfl⟩ (fun h0 a ha e=>by have:=hlu h0 a ha;omega)
   have hun:=qC (HP.out.below hB3) hr4 HY.out.1 (ud zs) hn hN hN;rw[HY.out.2.1] at hun
   obtain⟨y0,y1,-,-⟩:=id hX4;have HB:=(show Hid _ from hB3)
   clear hng hX2 hu2 hB2 q0 q1 f0 f1 hv3 hb3 hX3 hr4 hB3;go_upto_region 6 with fail
   clear z0 z1 e0 e1 hX4;generalize (w3.setCell ⟨w1.heap.size,0,none⟩ (.bool s')).setCell ⟨w1.heap.size,1,none⟩ (.slice p1 c1 c1)=W3 at *
   go_wp2_with fail;refine hun.mono ?_;rintro r w5 ⟨p5,n5,es5,rfl,h5,hf5,ht5,hb5⟩;have HR:Hid (PrP (aC zs) N w (.returned (.slice p5 n5 n5)) w5):=⟨p5,n5,es5,rfl,h5,fun a ha=>JA HB.out.size (hf5 a ha),ht5,ae HB.out hb5⟩
   clear hun h5 hf5 ht5 hb5;go_wp2;go_ret;exact HR.out
  ·rw[decide_eq_false hz]
   have HD:Hid ((aB zs:Int)=prd zs):=by have:=HY.out.2.2;rw[if_neg hz] at this;exact this.symm
   rw[HD.out] at hu2
   have hun:=qC (HP.out.below hB2) hu2 HY.out.1 (ud zs) hn hN hN;rw[HY.out.2.1] at hun
   have HB:Hid (Below w.heap.size w w2):=hB2;clear hz hcs hX2 hu2 hB2;go_wp2_with fail;refine hun.mono ?_;rintro r w5 ⟨p5,n5,es5,rfl,h5,hf5,ht5,hb5⟩;have HR:Hid (PrP (aC zs) N w (.returned (.slice p5 n5 n5)) w5):=⟨p5,n5,es5,rfl,h5,fun a ha=>JA HB.out.size (hf5 a ha),ht5,ae HB.out hb5⟩
   clear hun h5 hf5 ht5 hb5;go_wp2;go_ret;exact HR.out
end Go.Proofs.YtdjjlghlcffflaaGreatDoor
namespace Go.Proofs.YtdjjlghlcffflaaGreatDoor.Md
open Go.Proofs.YtdjjlghlcffflaaGreatDoor
variable {zs:List Int} {d:Int}
theorem kj(h:∀t,d∣gx zs t):∀j,j<=zs.length->d∣((aB (zs.take j):Nat):Int)
 |0,_=>by rw[List.take_zero];exact Int.dvd_zero d
 |j+1,hj=>by
  rw[gQ zs j (by omega)]
  exact Int.dvd_coe_gcd (kj h j (by omega)) (h j)
theorem c9(h:ad zs=zs.length)(h0:0<zs.length):Gs.Prm (aC zs)/\0<gx (aC zs) (zs.length-1)/\ad (aC zs)=zs.length/\(aC zs).length=zs.length/\prd zs≠0/\∀t,gx zs t=prd zs*gx (aC zs) t:=by
 have hg:=l5 h h0;have hp0:prd zs≠0:=by
  unfold prd;split<;>omega
 have hl:(aC zs).length=zs.length:=by rw[cW,List.length_map]
 have he:∀t,gx zs t=prd zs*gx (aC zs) t:=fun t=>by
  rw[cW,Gs.eM _ (by simp)]
  exact(Int.mul_ediv_cancel' (ud zs t)).symm
 have ht:=aw zs (by omega)
 rw[h] at ht
 have hpos:0<gx (aC zs) (zs.length-1):=by
  have e1:=he (zs.length-1);generalize gx (aC zs) (zs.length-1)=x at *
  unfold prd at e1
  rcases Int.lt_trichotomy x 0 with h1|h1|h1
  ·exfalso
   split at e1
   ·have:=Int.mul_pos_of_neg_of_neg (show -(aB zs:Int)<0 by omega) h1
    omega
   ·have:=Int.mul_neg_of_pos_of_neg (show 0<(aB zs:Int) by omega) h1
    omega
  ·rw[h1,JC] at e1
   exact absurd e1 ht
  ·exact h1
 refine⟨fun d hd=>?_,hpos,aX _ _ (fun j hj=>ak _ _ (by omega) j hj) (.inr (by omega)),hl,hp0,he⟩
 have h1:∀t,prd zs*d∣gx zs t:=fun t=>by
  rw[he t];exact Int.mul_dvd_mul_left _ (hd t)
 have h2:=kj h1 zs.length (Jr _);rw[List.take_length] at h2
 have h3:(prd zs).natAbs=aB zs:=by
  unfold prd;split<;>omega
 have h4:=Int.natAbs_dvd_natAbs.2 h2;rw[Int.natAbs_mul,h3,Int.natAbs_natCast] at h4
 have h5:aB zs*d.natAbs∣aB zs*1:=by rwa [Nat.mul_one]
 exact Nat.dvd_one.1 (Nat.dvd_of_mul_dvd_mul_left (by omega) h5)
theorem mK(ys:List Int):Dvd ys ys:=⟨[1],fun t=>by
 rw[Sk.ao,Sk.a_ (a:=gx [1]) (b:=fun i=>if i=0 then 1 else 0) (fun i=>by
  rcases Jw i with h|h
  ·subst h;rfl
  ·rw[if_neg (by omega),ak [1] 1 (by simp) i h]) (fun _=>rfl),Sk.wb,Int.one_mul]⟩
variable {A H a b:List Int}
theorem GG.dvd{B:List Int}(h:GG A B H a b):Dvd A H/\Dvd B H:=
 ⟨⟨a,fun t=>by rw[h.hA,b9,Sk.ao]⟩,⟨b,fun t=>by rw[h.hB,b9,Sk.ao]⟩⟩
theorem GG.len{B:List Int}(h:GG A B H a b)(hB:0<ad B):H.length<=ad B:=by
 obtain⟨-,q,hq⟩:=h.dvd;have h0:=cM h.hP;have hl:=h.hl;obtain⟨m,hm⟩:∃m,H.length=m+1:=⟨H.length-1,by omega⟩
 have hy:gx H m≠0:=by
  have:=h.h0;rw[show H.length-1=m by omega] at this
  omega
 rcases dV hm hy hq with h3|⟨c,h3,h4,-⟩
 ·omega
 ·omega
section
variable {k:Nat} {H:List Int} {u R lead:Int} {n:Nat} {l:List Nat} {e:Nat->Int}
theorem ImS.bdm(h:ImS k H u R lead n l e)(hR:R≠0)(hRb:R.natAbs<=2^rb){m:Nat}(hm:m<=2147483647)(h0:0<m)(ho:m%2=1):((((Cp.aH l:Nat):Int)*(m:Int)).natAbs:Int)<pw 70/\∀(r:Int) (t:Nat),t<n->((Cr.nxt m (Cp.aH l:Nat) (e t) r).natAbs:Int)<pw 70:=by
 obtain⟨x,i1,-⟩:=h.img;have h1:=h.Fv hR hRb;have h2:=xq l fun p hp=>by
  have:=(Cp.kf p (List.mem_of_mem_take (h.mem p hp))).2;omega
 have hpos:=oI l i1.pri;have h5:((Cp.aH l:Nat):Int)*(m:Int)<pw 70:=by
  obtain⟨q,hq⟩:∃q,q=70:=⟨70,rfl⟩;rw[<-hq];have h3:(2:Int)^(32*q)=pw q:=by rw[Int.pow_mul];rfl
  have h4:(2:Nat)^(31*l.length+31)<2^(32*q):=Nat.pow_lt_pow_right (by decide) (by omega)
  have h6:((2^(32*q):Nat):Int)=(2:Int)^(32*q):=by rw[Int.natCast_pow];rfl
  have h8:Cp.aH l*m<=2^(31*l.length)*2^31:=Nat.mul_le_mul h2 (by omega)
  rw[<-Nat.pow_add] at h8
  have h7:((Cp.aH l*m:Nat):Int)<((2^(32*q):Nat):Int):=Int.ofNat_lt.2 (Nat.lt_of_le_of_lt h8 h4);rw[<-h3,<-h6];rwa [Int.natCast_mul] at h7
 have h9:0<((Cp.aH l:Nat):Int)*(m:Int):=Int.mul_pos (by omega) (by omega)
 refine⟨by omega,fun r t ht=>?_⟩
 have:=Cr.Ci h0 ho r (show(0:Int)<((Cp.aH l:Nat):Int) by omega) (i1.rD t ht)
 omega
theorem ImS.topn(h:ImS k H u R lead n l e)(hk:k<320){A B D:List Int}(hT:Told (Cp.chain.getD k 0) A B H u R lead D n)(hl:¬((Cp.chain.getD k 0:Nat):Int)∣lead){r:Nat->Int}(hr:∀t,t<n->((Cp.chain.getD k 0:Nat):Int)∣r t-lead*gx D t):Cr.nxt (Cp.chain.getD k 0) (Cp.aH l:Nat) (e (n-1)) (r (n-1))≠0:=fun h0=>by
 obtain⟨hm1,hm2,-⟩:=gj hk;have hml:Cp.chain.getD k 0∉l:=fun hx=>hm2 (h.mem _ hx)
 have hp:Gs.Pri ((Cp.chain.getD k 0:Nat):Int):=Cp.kM hm1;have hone:=hT.one;have hpos:=hT.pos;generalize Cp.chain.getD k 0=m at *
 obtain⟨x,i1,i2⟩:=h.img;have hM:¬(m:Int)∣((Cp.aH l:Nat):Int):=fun hd=>by
  obtain⟨q,h1,h2⟩:=Cp.jE hp l hd;rw[Cp.m_ hp (i1.pri q h1) h2] at hml
  exact hml h1
 refine hl ?_;have h2:=Cr.pK hp hM (e (n-1)) (r (n-1));have h3:=hr (n-1) (by omega)
 rw[hone,Int.mul_one] at h3
 rw[h0] at h2
 have h4:=Int.dvd_neg.2 (Int.dvd_add h2 h3);rwa [show -(0-r (n-1)+(r (n-1)-lead))=lead by omega] at h4
end
end Go.Proofs.YtdjjlghlcffflaaGreatDoor.Md
