/- Own. -/
import Derived.Test.YtdjjlghlcffflaaGreatDoorZ2
set_option linter.unusedVariables false
set_option linter.unusedSimpArgs false
set_option maxHeartbeats 8000000
set_option maxRecDepth 100000
namespace Go.Proofs.YtdjjlghlcffflaaGreatDoor.Md
open Go.Proofs.YtdjjlghlcffflaaGreatDoor
variable {a b:List Int}
theorem dvd_trans{c:List Int}(h:Dvd a b)(k:Dvd b c):Dvd a c:=by
 obtain⟨p,hp⟩:=h;obtain⟨q,hq⟩:=k;refine⟨ax p q,fun t=>?_⟩
 rw[hp t,Sk.ao,Sk.a_ (a:=gx p) (b:=gx p) (g:=gx b) (h:=Sk.cv (gx q) (gx c)) (fun _=>rfl) (fun i=>by rw[hq i,Sk.ao]),Sk.kg,Sk.ao]
 exact Sk.a_ (fun i=>(Sk.ao p q i).symm) (fun _=>rfl) t
section
variable {yss:List (List Int)} {n:Nat} {gl Hl:Nat->List Int}
theorem GL.step(h:GL yss n gl Hl)(ty:∀i,i<n->ad (gt yss i)=(gt yss i).length){i:Nat}(hi:i<n):Dvd (gl i) (gl (i+1))/\Dvd (gt yss i) (gl (i+1)):=by
 obtain⟨LW,e⟩:=h.s i hi;rw[e];exact tO LW (h.t i (by omega)).1 (ty i hi)
theorem GL.on(h:GL yss n gl Hl)(ty:∀i,i<n->ad (gt yss i)=(gt yss i).length):∀k i,i+k<=n->Dvd (gl i) (gl (i+k))
 |0,i,_=>mK _
 |k+1,i,hk=>by
  have h1:=h.on ty k i (by omega)
  have h2:=(h.step ty (i:=i+k) (by omega)).1
  exact dvd_trans h1 h2
theorem GL.all(h:GL yss n gl Hl)(ty:∀i,i<n->ad (gt yss i)=(gt yss i).length){i:Nat}(hi:i<n):Dvd (gt yss i) (gl n):=by
 have h1:=h.on ty (n-(i+1)) (i+1) (by omega)
 rw[show i+1+(n-(i+1))=n by omega] at h1
 exact dvd_trans (h.step ty hi).2 h1
theorem Ge{x y H:List Int}(LW:LwF x y H)(tx:ad x=x.length)(h0:0<(gcr x y H).length):0<gx (gcr x y H) ((gcr x y H).length-1):=by
 have tg:ad (gcr x y H)=(gcr x y H).length:=by unfold gcr;rw[aM,af]
 have htop:=aw (gcr x y H) (by omega)
 rw[tg,fV] at htop
 rw[fV];generalize hc:Int.gcd ((aB x:Nat):Int) ((aB y:Nat):Int)=c at *
 have c0:c≠0:=fun h=>htop (by rw[h];simp)
 have tH:ad H=(gcr x y H).length:=by
  rw[<-tg];refine aX _ _ (fun j hj=>?_) (.inr ?_)
  ·have h1:=az (gcr x y H) j hj
   rw[fV,hc] at h1
   exact(Int.mul_eq_zero.1 h1).resolve_left (by omega)
  ·rw[tg]
   exact fun h=>htop (by rw[h,JC])
 have hpos:0<gx H (H.length-1):=by
  rcases Jw y.length with h5|h5
  ·have e:=LW.y0 h5
   have x0:0<x.length:=by
    have h6:=congrArg List.length e;rw[cW,List.length_map] at h6
    have:=LW.tH;omega
   have h7:=c9 tx x0;rw[e,h7.2.2.2.1];exact h7.2.1
  ·exact(LW.hF h5).h0
 rw[LW.tH] at tH
 rw[<-tH];exact Int.mul_pos (by omega) hpos
theorem GL.pos(h:GL yss n gl Hl)(h0:0<(gl n).length):0<gx (gl n) ((gl n).length-1):=by
 cases n with
 |zero=>rw[h.z] at h0;simp at h0
 |succ n=>
  obtain⟨LW,e⟩:=h.s n (by omega)
  rw[e] at h0 ⊢
  exact Ge LW (h.t n (by omega)).1 h0
end
end Go.Proofs.YtdjjlghlcffflaaGreatDoor.Md
namespace Go.Proofs.YtdjjlghlcffflaaGreatDoor
open Go.RowKit
noncomputable def quo(z c:List Int):List Int:=@dite _ (Dvd z c) (Classical.propDecidable _) (fun h=>tr (Classical.choose h)) (fun _=>[])
theorem ky{z c:List Int}(h:Dvd z c):(∀t,gx z t=gx (ax (quo z c) c) t)/\ad (quo z c)=(quo z c).length:=by
 unfold quo;rw[dif_pos h];refine⟨fun t=>?_,by rw[aM,af]⟩
 rw[Classical.choose_spec h t,Sk.ao,Sk.ao];exact Sk.a_ (fun i=>(aN _ i).symm) (fun _=>rfl) t
theorem xz{q z c:List Int}(hc:ad c=c.length)(c0:0<c.length)(hq:ad q=q.length)(h:∀t,gx z t=gx (ax q c) t):q=quo z c:=by
 obtain⟨h1,h2⟩:=ky ⟨q,h⟩;obtain⟨m,hm⟩:∃m,c.length=m+1:=⟨c.length-1,by omega⟩
 have ht:=aw c (by omega)
 rw[hc,hm,JD] at ht
 exact GI hm ht hq h2 fun t=>by rw[<-h t,<-h1 t]
theorem GF{z c:List Int}(h:Dvd z c)(hc:ad c=c.length)(c0:0<c.length):(quo z c).length<=ad z:=by
 obtain⟨h1,h2⟩:=ky h;rcases Jw (ad z) with h3|h3
 ·obtain⟨m,hm⟩:∃m,c.length=m+1:=⟨c.length-1,by omega⟩
  have ht:=aw c (by omega)
  rw[hc,hm,JD] at ht
  have:=jD hm ht fun t=>by rw[<-h1 t,az z t (by omega)]
  omega
 ·have:=(Md.gk (X:=z) (h:=quo z c) ⟨c,fun t=>by rw[jC];exact h1 t⟩ h3).1
  omega
variable {zss:List (List Int)}
theorem ft(h:0<aE zss):0<ad (gt zss (aE zss-1)):=by
 have h1:=aw (zss.map fun z=>(ad z:Int)) h
 have h2:=mP zss (aE zss-1);have h3:gx (zss.map fun z=>(ad z:Int)) (aE zss-1)≠0:=h1
 omega
theorem Bt(args:Array Value)(w':World):Sem.run Tryz.prog (callFunc 40 args) w'=.ok (.enter 40 args) w':=by
 have h1:¬Tryz.f40.name = "runtime.NumGoroutine" := of_decide_eq_false (by kernel_rfl)
 have h2:¬Tryz.f40.body=none:=fun h=>by cases h
 simp only[callFunc,Tryz.func40,go_sem];simp[h1,h2,go_sem]
variable {w:World} {g n nc m mc:Nat} {p q:Option Addr} {es fs:List Ent}
theorem AF{c z:List Int}(hX:w.cell? ⟨g,0,none⟩=some (.slice p n nc))(h:PA w 4 p n nc es c)(k:PA w 5 q m mc fs z)(hn:n<=8)(hm:m<=8)(hc:ad c=n)(c0:0<n)(hz:ad z=m)(hd:Dvd z c):
  Calls Tryz.prog 40 #[.slice q m mc,.pointer (some ⟨g,0,none⟩)] w (PnP (quo z c) 17 w):=by
 have hx:=A6 k h (by omega) (by omega) (by decide) (by decide) (fun _=>by omega)
 rw[je (by rw[hz,k.zl]),je (by rw[hc,h.zl])] at hx
 have HC:Hid (ad c=c.length/\0<c.length/\Dvd z c):=⟨by rw[hc,h.zl],by rw[h.zl];exact c0,hd⟩
 clear h k hc hz hd;go_enter Tryz.func40,Tryz.ntmps40;go_wp2_with fail;go_fit hx;rintro e w1 ⟨hr,hb⟩;clear hx;rcases hr with ⟨p1,n1,e1,qz,rfl,h1,-,-,h2⟩|⟨rfl,h1⟩
 ·have HF:Hid (PnP (quo z c) 17 w (.returned (.slice p1 n1 n1)) w1):=by
   rw[<-xz HC.out.1 HC.out.2.1 (by rw[h1.nrm,h1.zl]) h2]
   exact⟨p1,n1,e1,rfl,h1,hb⟩
  clear h1 h2 hb;go_wp2;go_ret;exact HF.out
 ·exfalso
  rcases h1 with h1|h1
  ·have:=HC.out.2.1;omega
  ·exact h1 HC.out.2.2
def sgc(l:Int)(c:List Int):List Int:=if l<0 then c.map ((-1) * ·) else c
theorem jF(l:Int){c:List Int}(hc:ad c=c.length):ad (sgc l c)=(sgc l c).length/\(sgc l c).length=c.length/\(∀t,gx (sgc l c) t=(if l<0 then -1 else 1)*gx c t)/\∀z,Dvd z c->Dvd z (sgc l c):=by
 unfold sgc;by_cases hl:l<0
 ·simp only[if_pos hl]
  have hg:∀t,gx (c.map ((-1) * ·)) t=(-1)*gx c t:=fun t=>Gs.eM _ (by simp) c t
  refine⟨?_,by simp,hg,fun z ⟨q,hq⟩=>⟨q.map ((-1) * ·),fun t=>?_⟩⟩
  ·rw[List.length_map]
   refine aX _ _ (fun j hj=>ak _ _ (by simp) j hj) ?_
   rcases Jw c.length with h0|h0
   ·exact .inl h0
   ·right
    have:=aw c (by omega)
    rw[hc] at this
    rw[hg];omega
  ·rw[hq t,Md.mY,Md.kY hg]
   omega
 ·simp only[if_neg hl]
  exact⟨hc,trivial,fun t=>by omega,fun z h=>h⟩
variable {B T D:Nat} {yss:List (List Int)} {h:Hdr}
theorem Cl{gl Hl:Nat->List Int}(H:HR D (EZ 5 8) w B T yss h)(hT:T<=w.heap.size)(hD:D<=1000)(G:Md.GL yss h.n gl Hl)(ty:∀i,i<h.n->ad (gt yss i)=(gt yss i).length)(hol:aE yss=h.n)(hTz:TzT w):
  Calls Tryz.prog 12 #[.slice h.p h.n h.c] w (OpP ((List.range (aE yss)).map fun i=>quo (gt yss i) (sgc (gx (gt yss (aE yss-1)) (ad (gt yss (aE yss-1))-1)) (gl h.n))) 17 13 w):=by
 have hct:=w_ H hT hD G ty hTz;have HX:Hid (HR D (EZ 5 8) w B T yss h/\T<=w.heap.size/\Md.GL yss h.n gl Hl/\(∀i,i<h.n->ad (gt yss i)=(gt yss i).length)/\aE yss=h.n):=⟨H,hT,G,ty,hol⟩;obtain⟨ld,hld⟩:∃ld:Int,ld=gx (gt yss (aE yss-1)) (ad (gt yss (aE yss-1))-1):=⟨_,rfl⟩;rw[<-hld];have HLD:=(show Hid _ from hld)
 obtain⟨p,n,nc⟩:=h;simp only at HX hct ⊢
 obtain⟨LL,hLL⟩:∃LL,(List.range (aE yss)).map (fun i=>quo (gt yss i) (sgc ld (gl n)))=LL:=⟨_,rfl⟩
 rw[hLL];have HLL:=(show Hid _ from hLL)
 clear H hT G ty hol hTz hld hLL;go_enter Tryz.func12,Tryz.ntmps12;go_wp2_with fail;go_fit hct;rintro r w1 ⟨p1,n1,e1,rfl,hC1,hb1⟩;clear hct;have hal:=ag (o:=.cells #[.slice p1 n1 n1] 25) (Jt w1.heap.size w1);have hcell:(w1.alloc (.cells #[.slice p1 n1 n1] 25)).cell? ⟨w1.heap.size,0,none⟩=some (.slice p1 n1 n1):=by
  simp only[World.cell?];rw[heap_alloc_new];rfl
 have hB1:=ae hb1 hal;have hgcw:w.heap.size<=w1.heap.size:=hb1.size;have hrow:(w1.alloc (.cells #[.slice p1 n1 n1] 25)).heap[w1.heap.size]?=some (.cells #[.slice p1 n1 n1] 25 (0,0)):=heap_alloc_new w1 _;have HRW:=(show Hid _ from hrow)
 clear hrow;have H2:=(cT (df 5 8)).below HX.out.1 HX.out.2.1 hB1;have hT2:=JA HX.out.2.1 hB1.size;have hld:=Cj H2 hT2 (by omega) (by decide) (by decide)
 have HC1:Hid (PA (w1.alloc (.cells #[.slice p1 n1 n1] 25)) 4 p1 n1 n1 e1 (gl n)/\Below w.heap.size w (w1.alloc (.cells #[.slice p1 n1 n1] 25))/\HR D (EZ 5 8) (w1.alloc (.cells #[.slice p1 n1 n1] 25)) B T yss ⟨p,n,nc⟩/\T<=(w1.alloc (.cells #[.slice p1 n1 n1] 25)).heap.size):=⟨hC1.below hal,hB1,H2,hT2⟩;clear hC1 hb1 hal hB1 H2 hT2;go_wp2_with fail;generalize w1.alloc (.cells #[.slice p1 n1 n1] 25)=W1 at *
 generalize w1.heap.size=gc at *
 go_fit hld;rintro r w2 ⟨p2,n2,e2,rfl,hL2,hb2⟩;clear hld;have hlen:=Iq HC1.out.2.2.1;have hn2:n2<=8:=by
  have h1:=hL2.zl;have h2:=hlen (aE yss-1);have h3:=aj (gt yss (aE yss-1));rw[af] at h1
  omega
 have hul:=C8 (hL2.pa (by decide) (by omega)) (by omega) (by decide)
 rw[aM,aN,<-HLD.out] at hul
 go_wp2_with fail;go_fit hul;rintro r w3 ⟨f,rfl,hf,hb3⟩;have hsg:=tp (hf.ev (by decide))
 clear hul hL2;go_wp2_with fail;go_fit hsg;rintro r w4 ⟨rfl,hb4⟩;clear hsg hf;have hB4:Below W1.heap.size W1 w4:=ae (ae hb2 hb3) hb4;have HLN:Hid (∀i,(gt yss i).length<=8):=hlen;clear hb2 hb3 hb4 hlen hn2;have fin:∀(v:World) (pb:Option Addr) (nb:Nat) (eb:List Ent),v.cell? ⟨gc,0,none⟩=some (.slice pb nb nb)->PA v 4 pb nb nb eb (sgc ld (gl n))->Below w.heap.size w v->HR D (EZ 5 8) v B T yss ⟨p,n,nc⟩->T<=v.heap.size->
   Calls Tryz.prog 39 #[.slice p n nc,.func (.func 40) #[] #[.pointer (some ⟨gc,0,none⟩)]] v (OpP LL 17 13 v):=fun v pb nb eb hcl hby hbw hHv hTv=>by
  rw[<-HLL.out];have hG:=HX.out.2.2.1;have hgt:=hG.t n (Jr _);obtain⟨s1,s2,s3,s4⟩:=jF ld hgt.1;refine yi (K':=17) (E':=13) hHv hTv hD (by decide) (by decide) (by decide) 40 #[.pointer (some ⟨gc,0,none⟩)] Bt (fun z=>quo z (sgc ld (gl n))) (fun wq i hd hi hb he=>?_) (fun i hi=>?_)
  ·obtain⟨fs,hP,hd3,-⟩:=he
   have hin:i<n:=by have:=HX.out.2.2.2.2;omega
   have hdv:=hG.all HX.out.2.2.2.1 hin;have hnb:nb=(gl n).length:=by rw[<-hby.zl,s2]
   have hnz:0<(gl n).length:=by
    have h1:=ft (zss:=yss) (by omega)
    have h2:=(Md.gk (hG.all HX.out.2.2.2.1 (i:=aE yss-1) (by have:=HX.out.2.2.2.2;omega)) h1).2
    have:=hgt.1;omega
   exact AF (eX hb hcl) (hby.below hb) hP (by have:=hgt.2.1;omega) hd3 (by rw[s1,hby.zl]) (by omega) (by rw[HX.out.2.2.2.1 i hin,hP.zl]) (s4 _ hdv)
  ·have hin:i<n:=by have:=HX.out.2.2.2.2;omega
   have h1:=ft (zss:=yss) (by omega)
   have h2:=(Md.gk (hG.all HX.out.2.2.2.1 (i:=aE yss-1) (by have:=HX.out.2.2.2.2;omega)) h1).2
   have h3:=GF (s4 _ (hG.all HX.out.2.2.2.1 hin)) s1 (by have:=hgt.1;omega)
   have h4:=aj (gt yss i);have h5:=HLN.out i;show(quo (gt yss i) (sgc ld (gl n))).length<=13
   omega
 have HFN:=(show Hid _ from fin)
 clear fin;have hB5:=ae HC1.out.2.1 hB4;have H5:=(cT (df 5 8)).below HC1.out.2.2.1 HC1.out.2.2.2 hB4;have hT5:=JA HC1.out.2.2.2 hB4.size;have hcell4:=eX hB4 hcell;by_cases hneg:ld<0
 ·have i1:bf ld = -1:=qY hneg
  rw[i1];have hsu:=E_ (w:=w4) (K:=0) (L:=4) (p:=none) (n:=0) (nc:=0) (es:=[]) (zs:=[]) ⟨rfl,rfl,Jr _,Jz _,fun _=>rfl,PL.nil,fun j hj=>by omega⟩ (HC1.out.1.below hB4) (by omega) (by have:=HC1.out.1.zl;have:=(HX.out.2.2.1.t n (Jr _)).2.1;omega) (by decide)
  go_wp2_with fail;go_fit hsu;rintro r w5 ⟨p5,n5,e5,rfl,h5,hb5⟩;clear hsu;have hlist:tr (pz (· - ·) (tr []) (tr (gl n)))=sgc ld (gl n):=by
   have hgt:=HX.out.2.2.1.t n (Jr _);obtain⟨s1,s2,s3,s4⟩:=jF ld hgt.1;have he:∀t,gx (tr (pz (· - ·) (tr []) (tr (gl n)))) t=gx (sgc ld (gl n)) t:=fun t=>by
    rw[aN,dS _ rfl,aN,aN,s3,if_pos hneg,Sk.cS];omega
   exact dm _ _ (by rw[af,<-aM,k_ he,s1]) fun t _=>he t
  rw[hlist] at h5
  have h4:=pL h5 (fun t=>by
   have hgt:=HX.out.2.2.1.t n (Jr _);have h9:=(jF ld hgt.1).2.2.1 t;rw[h9,if_pos hneg];have:=hgt.2.2 t;omega) (by have h9:=h5.zl;have:=(jF ld (HX.out.2.2.1.t n (Jr _)).1).2.1;have:=(HX.out.2.2.1.t n (Jr _)).2.1;omega)
  have hrow5:=(HRW.out);have hr4:w5.heap[gc]?=some (.cells #[.slice p1 n1 n1] 25 (0,0)):=by
   have hlt:gc<W1.heap.size:=(Array.getElem?_eq_some_iff.1 HRW.out).1;exact((ae hB4 hb5).block gc hlt).trans HRW.out
  have hc5:=eX hb5 hcell4;have f5:w5.frozen? ⟨gc,0,none⟩=false:=frozen_of_row w5 gc 0 _ 25 hr4;have hB6:Below w.heap.size w (w5.setCell ⟨gc,0,none⟩ (.slice p5 n5 n5)):=(ae hB5 hb5).setCell (p:=⟨gc,0,none⟩) hgcw _;have hcell6:(w5.setCell ⟨gc,0,none⟩ (.slice p5 n5 n5)).cell? ⟨gc,0,none⟩=some (.slice p5 n5 n5):=by
   have h9:=heap_setCell_same w5 gc 0 _ 25 (.slice p5 n5 n5) hr4;rw[cell_of_row _ gc 0 _ 25 (0,0) h9];rfl
  have hgl:gc<w4.heap.size:=block_lt_of_cell hcell4;have hP6:PA (w5.setCell ⟨gc,0,none⟩ (.slice p5 n5 n5)) 4 p5 n5 n5 e5 (sgc ld (gl n)):=by
   refine⟨h4.el,h4.zl,h4.cap,h4.bnd,h4.pn,h4.pl.ah _ _ (fun a ha he=>?_),fun j hj=>?_⟩
   ·have:=h5.fr a ha
    simp only at he;omega
   ·have hv:=(h5.ev j hj)
    obtain⟨xs,k1,k2⟩:=hv;have hv2:NV w4.heap.size (w5.setCell ⟨gc,0,none⟩ (.slice p5 n5 n5)) (0+4+1) (gx (sgc ld (gl n)) j) (ge e5 j):=⟨xs,k1.set (a:=⟨gc,0,none⟩) hgl _,k2⟩;have hbd:((gx (sgc ld (gl n)) j).natAbs:Int)<pw 4:=(h4.gbd j);exact(hv2.fit hbd).ev (by decide)
  have hfc:=HFN.out _ p5 n5 e5 hcell6 hP6 hB6 ((cT (df 5 8)).below HX.out.1 HX.out.2.1 hB6) (JA HX.out.2.1 hB6.size);clear h5 h4 hlist HC1 H5 hB4 hcell hcell4 hr4 hrow5 hcell6 hP6 hb5 hB5;go_wp2_with fail;go_fit hfc;rintro r w7 ⟨p7,hs7,rfl,h7,hb7⟩;have HE:Hid (OpP LL 17 13 w (.returned (.slice p7 (aE LL) (aE LL))) w7):=⟨p7,hs7,rfl,h7.mono hB6.size,ae hB6 hb7⟩;clear hfc h7 hb7;go_wp2;go_ret;exact HE.out
 ·have i1:¬bf ld<0:=by
   rcases Int.lt_or_eq_of_le (show 0<=ld by omega) with h1|h1
   ·rw[q_ h1];decide
   ·rw[ot h1.symm];decide
  have hfc:=HFN.out w4 p1 n1 e1 hcell4 (by unfold sgc;rw[if_neg hneg];exact HC1.out.1.below hB4) hB5 H5 hT5
  have hd1:decide (bf ld<0)=false:=decide_eq_false i1;generalize bf ld=sg at *
  clear hneg HC1 H5 hB4 hcell;go_wp2_with fail;go_fit hfc;rintro r w5 ⟨p5,hs5,rfl,h5,hb5⟩;have HE:Hid (OpP LL 17 13 w (.returned (.slice p5 (aE LL) (aE LL))) w5):=⟨p5,hs5,rfl,h5.mono hB5.size,ae hB5 hb5⟩;clear hfc h5 hb5;go_wp2;go_ret;exact HE.out
variable {N K:Nat} {es0:List Ent} {zs:List Int}
theorem EL(h:PR w N p n nc es0 zs)(hn:n<=100000)(hN:N<=1000)(hK:N<=2*K):
  Calls Tryz.prog 23 #[.slice p n nc] w (fun e w'=>∃q mc,e=.returned (.slice q n mc)/\EZ K n w' w.heap.size w'.heap.size zs ⟨q,n,mc⟩/\Below w.heap.size w w'):=by
 obtain⟨i0,hi,hzz⟩:=Option.map_eq_some_iff.1 uJ;simp only[Prod.mk.injEq] at hzz
 obtain⟨hz0,hz1,hz2⟩:=hzz;have HI:Hid (Tryz.prog.info? 50=some i0/\i0.zero=some (.agg #[.bool false,.slice none 0 0])/\i0.size=2/\i0.bytes=32):=⟨hi,hz0,hz1,hz2⟩;have HX:Hid (PR w N p n nc es0 zs):=h;have hzl:=h.zl;clear h hi hz0 hz1 hz2;go_enter Tryz.func23,Tryz.ntmps23;go_wp2_with fail;go_loopw [3,4] (fun qv iv wr=>∃(k:Nat) (es:List Ent),k<=n/\iv=.int .i64 k/\Hid (es.length=k/\LG w.heap.size 50 (fun w z e=>EV w K z e) wr qv es (zs.take k)/\Below w.heap.size w wr/\∀j,j<k->0<(ge es j).n->aJ w.heap.size (ge es j).p)) (fun _ iv _=>n-(intOf iv).toNat)
 case atStart=>exact⟨0,[],Jz _,by go_num,rfl,by rw[List.take_zero];exact LG.nil _ _ _ _,Jt _ _,fun j hj=>absurd hj (by omega)⟩
 case round=>
  obtain⟨k,es,hk,rfl,H⟩:=hrel;rcases Ju k n with hlt|hge
  ·obtain⟨hel,hLR,hB,hfr⟩:=H.out
   have hPR:=HX.out.below hB;obtain⟨b,o,hp,hc⟩:=hPR.pl (by rw[hPR.el];omega)
   subst hp;obtain⟨c0,c1⟩:=hc k (by rw[hPR.el];omega)
   have hto:=Jk (hPR.ev k hlt) hN hK;clear hel hLR hB hc hPR hfr;go_wp2_with fail;refine hto.mono ?_;rintro e w1 ⟨u,rfl,hu,hF1,hb1⟩;clear c0 c1 hto;obtain⟨hi,hz0,hz1,hz2⟩:=HI.out;have hown0:=cD H.out.2.1.own hb1;rw[H.out.1] at hown0
   have HO:Hid (w1.ownsRow w.heap.size 50 2 u3 k (fl es)):=hown0;have hsz:w.heap.size<=w1.heap.size:=JA H.out.2.2.1.size hb1.size;have HE:Hid (EV w1 K (gx zs k) u):=hu;clear hown0 hu;go_wp2_with (refine wpList_append_lies _ rfl _ _ 25 rfl w.heap.size 50 i0 (.agg #[.bool false,.slice none 0 0]) 2 32 Tryz.underlying25 hi hz0 hz1 hz2 rfl (by decide) u3 k (fl es) rfl (HO.out.alloc _) ⟨w1.heap.size,0,none⟩ 1 1 [.bool u.s,.slice u.p u.n u.c] rfl rfl ?_ (fun x hx=>by simp at hx;rcases hx with rfl|rfl<;>rfl) (by decide) (by unfold maxLen;omega) (by omega) (by simp;omega) _ rfl ?_;exact World.news_of_block (heap_alloc_new w1 _);intro g cap w3 hown3 hgrow3 hat3 hlt3;have hB3:Below w.heap.size w w3:=((ae H.out.2.2.1 hb1).alloc hsz _).grown hgrow3 (by simp;omega) (fun q hq=>(HO.out.lt q hq).1);have HA:Hid (LG w.heap.size 50 (fun w z e=>EV w K z e) w3 (.slice (some ⟨g,0,none⟩) (k+1) cap) (es++[u]) (zs.take k++[gx zs k])):=LG.app (gA K) H.out.1 H.out.2.1 hb1 HE.out (fun h0 a ha=>.inr (hF1 a ha)) hown3 hgrow3 hat3;clear hown3 hgrow3 hat3)
   refine⟨⟨k+1,es++[u],by omega,by go_num,by have:=H.out.1;simp;omega,by rw[eU zs k (by omega)];exact HA.out,hB3,fun j hj h0=>?_⟩,by simp[intOf];omega⟩
   have hel:=H.out.1;rcases Ju j k with h|h
   ·rw[cy _ _ _ (by omega)] at h0 ⊢
    exact H.out.2.2.2 j h h0
   ·obtain rfl:j=es.length:=by omega
    rw[fH];exact fun a ha=>JA H.out.2.2.1.size (hF1 a ha)
  ·obtain rfl:k=n:=by omega
   obtain⟨hel,hLR,hB,hfr⟩:=H.out;rw[Jv (by omega)] at hLR
   obtain⟨q,cap,hv,hc1,hc2,hPL,hF,hpn⟩:=hLR.pl;have hev:=hLR.ev;subst hv;rw[hel] at hev hc1 ⊢
   have HR:Hid (∃q' mc,Ending.returned (.slice q k cap)=.returned (.slice q' k mc)/\EZ K k wr w.heap.size wr.heap.size zs ⟨q',k,mc⟩/\Below w.heap.size w wr):=by
    refine⟨q,cap,rfl,⟨es,⟨hel,hzl,hc1,hc2,hpn,hPL,hev⟩,Jr _,fun a ha h0=>⟨hF a ha,?_⟩,fun j hj h0 a ha=>⟨hfr j hj h0 a ha,(gA K).lt (hev j hj) h0 a ha⟩⟩,hB⟩
    obtain⟨b,o,hp,hlt⟩:=hPL.lt (by rw[hel];exact h0)
    simp only at ha;rw[hp] at ha
    cases ha
    exact hlt
   clear H hLR hev hPL hF hB hge hfr;go_wp2;go_ret;exact HR.out
theorem EZ.le{D':Nat}{z:List Int}(k:EZ K D w B T z h)(hD:D<=D'):EZ K D' w B T z h:=by
 obtain⟨fs,a,b,c,d⟩:=k;exact⟨fs,a,JA b hD,c,d⟩
variable {E:Nat}
theorem EC(H:HR D (EY N E) w B T zss h)(hT:T<=w.heap.size)(hD:D<=1000)(hE:E<=1000)(hN:N<=1000)(hK:N<=2*K):
  Calls Tryz.prog 10 #[.slice h.p h.n h.c] w (fun e w'=>∃h':Hdr,e=.returned h'.val/\h'.n=h.n/\HR D (EZ K E) w' w.heap.size w'.heap.size zss h'/\Below w.heap.size w w'):=by
 obtain⟨I0,hi,hzz⟩:=Option.map_eq_some_iff.1 zh;simp only[Prod.mk.injEq] at hzz
 obtain⟨hz0,hz1,hz2⟩:=hzz;have HI:Hid (Tryz.prog.info? 25=some I0/\I0.zero=some (.slice none 0 0)/\I0.size=1/\I0.bytes=24):=⟨hi,hz0,hz1,hz2⟩;clear hi hz0 hz1 hz2;obtain⟨hs,k⟩:=H;have HX:Hid (ew D (EY N E) w B T zss h hs/\T<=w.heap.size):=⟨k,hT⟩;have hn:h.n<=D:=k.few;have HL:Hid (zss.length=h.n):=k.tl;obtain⟨p,n,nc⟩:=h;simp only at hn HL ⊢
 clear k hT;go_enter Tryz.func10,Tryz.ntmps10;go_wp2_with fail;go_loopw [3,4] (fun qv iv wr=>∃(k:Nat) (ls:List Hdr),k<=n/\iv=.int .i64 k/\Hid (ls.length=k/\LH w.heap.size 25 (EZ K E) wr qv ls (zss.take k)/\Below w.heap.size w wr)) (fun _ iv _=>n-(intOf iv).toNat)
 case atStart=>exact⟨0,[],Jz _,by go_num,rfl,by rw[List.take_zero];exact LH.nil _ _ _ _,Jt _ _⟩
 case round=>
  obtain⟨k,ls,hk,rfl,G⟩:=hrel;rcases Ju k n with hlt|hge
  ·have g4:=G.out.2.2
   obtain⟨b,o,hp,hc⟩:=HX.out.1.hl (by rw[HX.out.1.el];show 0<n;omega)
   simp only at hp;subst hp
   have c0:=hc k (by rw[HX.out.1.el];exact hlt)
   have c1:wr.cell? ⟨b,o+k,none⟩=some (gh hs k).val:=by rw[g4.cell (block_lt_of_cell c0)];exact c0
   have hE2:=(bO N E).below (HX.out.1.ev k hlt) HX.out.2 g4;generalize gh hs k=hd at c1 hE2
   obtain⟨p2,n2,nc2⟩:=hd;simp only[Hdr.val] at c1
   obtain⟨es2,hP2,-,-,hd3,-,-⟩:=hE2;simp only at hP2 hd3
   have i1:(k:Int)<(n:Int):=by omega
   have hcall:=EL hP2 (by omega) hN hK
   clear hc c0 hP2 g4;go_wp2_with fail;go_fit hcall;rintro e w1 ⟨q,mc,rfl,hZ,hb1⟩;have HE:Hid (EZ K E w1 wr.heap.size w1.heap.size (gt zss k) ⟨q,n2,mc⟩):=hZ.le hd3;clear c1 hZ hcall;obtain⟨hi,hz0,hz1,hz2⟩:=HI.out;have hown0:=cD G.out.2.1.own hb1;rw[G.out.1] at hown0
   have HO:Hid (w1.ownsRow w.heap.size 25 1 u3 k (ls.map Hdr.val)):=hown0;have hsz:w.heap.size<=w1.heap.size:=JA G.out.2.2.size hb1.size;clear hown0;go_wp2_with (refine wpList_append_lies _ rfl _ _ 23 rfl w.heap.size 25 I0 (.slice none 0 0) 1 24 Tryz.underlying23 hi hz0 hz1 hz2 rfl (by decide) u3 k (ls.map Hdr.val) rfl (HO.out.alloc _) ⟨w1.heap.size,0,none⟩ 1 1 [.slice q n2 mc] rfl rfl ?_ (fun x hx=>by simp at hx;subst hx;rfl) (by decide) (by unfold maxLen;omega) (by omega) (by simp;omega) _ rfl ?_;exact World.news_of_block (heap_alloc_new w1 _);intro g cap w3 hown3 hgrow3 hat3 hlt3;have hB3:Below w.heap.size w w3:=((ae G.out.2.2 hb1).alloc hsz _).grown hgrow3 (by simp;omega) (fun q hq=>(HO.out.lt q hq).1);have HA:Hid (LH w.heap.size 25 (EZ K E) w3 (.slice (some ⟨g,0,none⟩) (k+1) cap) (ls++[⟨q,n2,mc⟩]) (zss.take k++[gt zss k])):=LH.app (df K E) G.out.1 G.out.2.1 hb1 HE.out (Jr _) (Jr _) G.out.2.2.size hown3 hgrow3 hat3;clear hown3 hgrow3 hat3)
   refine⟨⟨k+1,ls++[⟨q,n2,mc⟩],by omega,by go_num,by have:=G.out.1;simp;omega,by have h9:=jJ id zss k (by have:=HL.out;omega);simp only[List.map_id,id] at h9;rw[h9];exact HA.out,hB3⟩,by simp[intOf];omega⟩
  ·obtain rfl:k=n:=by omega
   obtain⟨hel,hLR,hB⟩:=G.out;rw[Jv (by have:=HL.out;omega)] at hLR
   obtain⟨q,cap,hv,hRow⟩:=hLR.row (df K E) (D:=D) (by omega)
   subst hv;have HRW:Hid (ew D (EZ K E) wr w.heap.size wr.heap.size zss ⟨q,k,cap⟩ ls/\Below w.heap.size w wr):=⟨by rw[<-hel];exact hRow,hB⟩
   rw[hel];clear hRow hLR hB G hel;go_wp2;go_ret;exact⟨⟨q,k,cap⟩,rfl,rfl,⟨ls,HRW.out.1⟩,HRW.out.2⟩
variable {z:Int} {e:Ent}
theorem GX(h:RE w N z e)(hz:z≠0):e.s=decide (z<0):=by
 obtain⟨⟨ds,h1,h2,-⟩,-⟩:=h;have h3:=aI h1.u;unfold aF at h2
 cases hs:e.s with
 |true=>
  rw[hs,if_pos rfl] at h2
  exact(decide_eq_true (by omega)).symm
 |false=>
  rw[hs,if_neg (by decide)] at h2
  exact(decide_eq_false (by omega)).symm
theorem DG(b:Bool)(x:Value)(w:World):(Instr.field 65 (.agg #[.bool b,x]) 0).run Tryz.prog w=.ok (.bool b) w:=by kernel_rfl
variable {i:Nat}
theorem qW(F:Nat->List Int)(h:i<n):gt ((List.range n).map F) i=F i:=by
 simp[gt,List.getD_eq_getElem?_getD,h]
def rpl(l:List (List Int)):List (List Int):=if gx (gt l (l.length-1)) (ad (gt l (l.length-1))-1)<0 then otr (l.map (ax [-1])) else l
theorem AR{gl Hl:Nat->List Int}(H:HR D (EY 8 8) w B T yss h)(hT:T<=w.heap.size)(hD:D<=900)(G:Md.GL yss h.n gl Hl)(ty:∀i,i<h.n->ad (gt yss i)=(gt yss i).length)(hol:aE yss=h.n)(h0:0<h.n)(yb:∀i,i<h.n->∀t,((gx (gt yss i) t).natAbs:Int)<pw 4):
  Calls Tryz.prog 16 #[.slice h.p h.n h.c] w (fun e w'=>∃h':Hdr,e=.returned h'.val/\HR D (EY 104 10) w' w.heap.size w'.heap.size (rpl ((List.range h.n).map fun i=>quo (gt yss i) (gl h.n))) h'/\Below w.heap.size w w'):=by
 obtain⟨I0,hi,hzz⟩:=Option.map_eq_some_iff.1 oq;simp only[Prod.mk.injEq] at hzz
 obtain⟨hz0,hz1,hz2⟩:=hzz;have HI:Hid (Tryz.prog.info? 31=some I0/\I0.zero=some (.slice none 0 0)/\I0.size=1/\I0.bytes=24):=⟨hi,hz0,hz1,hz2⟩;clear hi hz0 hz1 hz2;have hct:=nM H (by decide) hT (by omega) G
 obtain⟨hs,k⟩:=H;have hn:h.n<=D:=k.few;have HX:Hid (ew D (EY 8 8) w B T yss h hs/\T<=w.heap.size/\Md.GL yss h.n gl Hl/\(∀i,i<h.n->ad (gt yss i)=(gt yss i).length)/\aE yss=h.n/\0<h.n/\∀i,i<h.n->∀t,((gx (gt yss i) t).natAbs:Int)<pw 4):=⟨k,hT,G,ty,hol,h0,yb⟩;have HQ:Hid (∀i,i<h.n->Dvd (gt yss i) (gl h.n)/\ad (gl h.n)=(gl h.n).length/\0<(gl h.n).length/\(gl h.n).length<=8/\∀t,((gx (gl h.n) t).natAbs:Int)<pw 4):=fun i hi=>by
  have hgt:=G.t h.n (Jr _);refine⟨G.all ty hi,hgt.1,?_,hgt.2.1,hgt.2.2⟩;have h1:=ft (zss:=yss) (by omega)
  have h2:=(Md.gk (G.all ty (i:=aE yss-1) (by omega)) h1).2
  have:=hgt.1;omega
 obtain⟨p,n,nc⟩:=h;simp only at hn HX HQ hct ⊢
 obtain⟨LL,hLL⟩:∃LL,(List.range n).map (fun i=>quo (gt yss i) (gl n))=LL:=⟨_,rfl⟩
 have hln:LL.length=n:=by rw[<-hLL];simp
 have HLL:Hid ((List.range n).map (fun i=>quo (gt yss i) (gl n))=LL/\LL.length=n):=⟨hLL,hln⟩
 have HLQ:Hid (0<n->gt LL (n-1)=quo (gt yss (n-1)) (gl n)):=fun h=>by
  rw[<-hLL];exact qW _ (by omega)
 rw[hLL];clear k hT G ty hol h0 yb hLL hln;go_enter Tryz.func16,Tryz.ntmps16;go_wp2_with fail;go_fit hct;rintro r w1 ⟨p1,k1,e1,rfl,hC1,hb1⟩;have HC:Hid (PR w1 8 p1 k1 k1 e1 (gl n)/\Below w.heap.size w w1):=⟨hC1,hb1⟩;clear hct hC1 hb1;go_wp2_with fail;go_loopw [4,5,6,7] (fun qv iv _ _ wr=>∃(k:Nat) (ls:List Hdr),k<=n/\iv=.int .i64 k/\Hid (ls.length=k/\LH w1.heap.size 31 (EY 100 9) wr qv ls ((List.range k).map fun i=>quo (gt yss i) (gl n))/\Below w1.heap.size w1 wr)) (fun _ iv _ _ _=>n-(intOf iv).toNat)
 case atStart=>exact⟨0,[],Jz _,by go_num,rfl,LH.nil _ _ _ _,Jt _ _⟩
 case round=>
  obtain⟨k,ls,hk,rfl,G⟩:=hrel;rcases Ju k n with hlt|hge
  ·have g4:=G.out.2.2
   have g5:=ae HC.out.2 g4;obtain⟨b,o,hp,hc⟩:=HX.out.1.hl (by rw[HX.out.1.el];show 0<n;omega)
   simp only at hp;subst hp
   have c0:=hc k (by rw[HX.out.1.el];exact hlt)
   have c1:wr.cell? ⟨b,o+k,none⟩=some (gh hs k).val:=by rw[g5.cell (block_lt_of_cell c0)];exact c0
   have hE2:=(bO 8 8).below (HX.out.1.ev k hlt) HX.out.2.1 g5;generalize gh hs k=hd at c1 hE2
   obtain⟨p2,n2,nc2⟩:=hd;simp only[Hdr.val] at c1
   obtain⟨es2,hP2,hc2,ht2,hd3,-,-⟩:=hE2;simp only at hP2 hc2 ht2 hd3
   subst hc2;have i1:(k:Int)<(n:Int):=by omega
   obtain⟨q1,q2,q3,q4,q5⟩:=HQ.out k hlt;have hk1:(gl n).length=k1:=HC.out.1.zl;obtain⟨m1,hm1⟩:∃m1,k1=m1+1:=⟨k1-1,by omega⟩
   have hcall:=xO hP2 (HC.out.1.below g4) ht2 (by rw[q2,hk1]) hm1 (by omega) (by omega) (HX.out.2.2.2.2.2.2 k hlt) q5 q1
   clear hc c0 hP2 g4 g5 q2 q3 q4 q5 hk1 hm1 ht2;go_wp2_with fail;go_fit hcall;rintro e w2 ⟨hr,hb1⟩;rcases hr with ⟨q,m',fs,qz,rfl,hR1,ht1,hn1,hqe,hF1,hF2⟩|⟨_,_,_,_,hno⟩
   ·have HE:Hid (EY 100 9 w2 wr.heap.size w2.heap.size (quo (gt yss k) (gl n)) ⟨q,m',m'⟩):=by
     have h9:=HQ.out k hlt;rw[<-xz h9.2.1 h9.2.2.1 (by rw[ht1,hR1.zl]) hqe]
     exact mM hR1 hF1 ht1 hF2 hn1
    clear c1 hR1 hF1 hF2 hcall ht1 hqe q1;obtain⟨hi,hz0,hz1,hz2⟩:=HI.out;have hown0:=cD G.out.2.1.own hb1;rw[G.out.1] at hown0
    have HO:Hid (w2.ownsRow w1.heap.size 31 1 u4 k (ls.map Hdr.val)):=hown0;have hsz:w1.heap.size<=w2.heap.size:=JA G.out.2.2.size hb1.size;clear hown0;go_wp2_with (refine wpList_append_lies _ rfl _ _ 28 rfl w1.heap.size 31 I0 (.slice none 0 0) 1 24 Tryz.underlying28 hi hz0 hz1 hz2 rfl (by decide) u4 k (ls.map Hdr.val) rfl (HO.out.alloc _) ⟨w2.heap.size,0,none⟩ 1 1 [.slice q m' m'] rfl rfl ?_ (fun x hx=>by simp at hx;subst hx;rfl) (by decide) (by unfold maxLen;omega) (by omega) (by simp;omega) _ rfl ?_;exact World.news_of_block (heap_alloc_new w2 _);intro g cap w3 hown3 hgrow3 hat3 hlt3;have hB3:Below w1.heap.size w1 w3:=((ae G.out.2.2 hb1).alloc hsz _).grown hgrow3 (by simp;omega) (fun q hq=>(HO.out.lt q hq).1);have HA:Hid (LH w1.heap.size 31 (EY 100 9) w3 (.slice (some ⟨g,0,none⟩) (k+1) cap) (ls++[⟨q,m',m'⟩]) ((List.range k).map (fun i=>quo (gt yss i) (gl n))++[quo (gt yss k) (gl n)])):=LH.app (bO 100 9) G.out.1 G.out.2.1 hb1 HE.out (Jr _) (Jr _) G.out.2.2.size hown3 hgrow3 hat3;clear hown3 hgrow3 hat3)
    refine⟨⟨k+1,ls++[⟨q,m',m'⟩],by omega,by go_num,by have:=G.out.1;simp;omega,by rw[List.range_succ,List.map_append];exact HA.out,hB3⟩,by simp[intOf];omega⟩
   ·exact absurd q1 hno
  ·obtain rfl:k=n:=by omega
   obtain⟨hel,hLR,hB⟩:=G.out;rw[HLL.out.1] at hLR
   obtain⟨q',cap,hv,hRow⟩:=hLR.row (bO 100 9) (D:=D) (by omega)
   subst hv;rw[hel] at hRow ⊢
   have HRW:Hid (HR D (EY 100 9) wr w1.heap.size wr.heap.size LL ⟨q',k,cap⟩/\Below w1.heap.size w1 wr):=⟨⟨_,hRow⟩,hB⟩;have i1:¬(k:Int)<(k:Int):=by omega
   have hle:=AQ HRW.out.1 (by omega)
   rw[HLL.out.2] at hle
   clear hRow hLR hB G hel;go_wp2_with fail;go_fit hle;rintro e v1 ⟨⟨p2,n2,nc2⟩,rfl,he,hw⟩;subst v1;simp only[Hdr.val];obtain⟨es2,hP2,hc2,ht2,hd2,-,-⟩:=he;simp only at hP2 hc2 ht2 hd2
   subst hc2;have hrl:=iE hP2 (by omega) (by decide)
   have HZ:Hid (gx (gt LL (k-1)) (nc2-1)≠0/\nc2=ad (gt LL (k-1))):=by
    refine⟨?_,ht2.symm⟩;have hk0:=HX.out.2.2.2.2.2.1;obtain⟨q1,q2,q3,q4,q5⟩:=HQ.out (k-1) (by omega)
    have h1:=ft (zss:=yss) (by have:=HX.out.2.2.2.2.1;omega)
    rw[HX.out.2.2.2.2.1] at h1
    rw[<-ht2];refine aw _ ?_;rw[HLQ.out hk0];rcases Jw (ad (quo (gt yss (k-1)) (gl k))) with h2|h2
    ·exfalso
     have h3:=aw _ h1;rw[(ky q1).1,Sk.ao,Sk.ji fun i=>az _ i (by omega)] at h3
     exact h3 rfl
    ·exact h2
   clear hle hP2 ht2;go_wp2_with fail;go_fit hrl;rintro e v2 ⟨u,rfl,hu,hb2⟩;have hus:=GX hu HZ.out.1;have HB:Hid (Below w.heap.size w v2/\HR D (EY 100 9) v2 w1.heap.size v2.heap.size LL ⟨q',k,cap⟩):=by
    refine⟨ae (ae HC.out.2 HRW.out.2) hb2,(cT (bO 100 9)).wide ((cT (bO 100 9)).below HRW.out.1 (Jr _) hb2) (Jr _) hb2.size⟩
   have HS:Hid (w.heap.size<=w1.heap.size):=HC.out.2.size;have HR2:Hid (rpl LL=if gx (gt LL (k-1)) (nc2-1)<0 then otr (LL.map (ax [-1])) else LL):=by
    show _=_
    unfold rpl;rw[HLL.out.2,<-HZ.out.2]
   generalize gx (gt LL (k-1)) (nc2-1)=ld at *
   have hfd:=DG;clear hu hrl hb2 HZ;by_cases hl:ld<0
   ·have e1:u.s=true:=by rw[hus];exact decide_eq_true hl
    rw[e1];have HR3:Hid (rpl LL=otr (LL.map (ax [-1]))):=by
     show _=_
     rw[HR2.out,if_pos hl]
    clear hus HR2;go_wp2_with fail;have hal:=ag (o:=.cells #[.int .i64 (-1)] 2) (Jt v2.heap.size v2);have hOf:=EK _ 1 1 [-1] _ rfl (by decide) (xH v2 (-1) 2) (fun j=>by match j with|0=>decide|(j+1)=>simp[gx])
    go_fit hOf;rintro e w3 ⟨p1,n1,es1,rfl,hP1,hF1,ht1,hb3⟩;have hB1:=ae hal hb3;have e2:tr [-1]=[-1]:=by decide
    rw[e2] at hP1 ht1
    obtain rfl:n1=1:=hP1.zl.symm;have hsc:=qx (K:=1) (L:=50) (E':=10) hP1 rfl (by decide) (fun i=>by match i with|0=>decide|(j+1)=>simp[gx];exact bu 1) ((cT (bO 100 9)).below HB.out.2 (Jr _) hB1) (JA (Jr _) hB1.size) (by omega) (by decide) (by decide) (by decide) (by decide) (by decide)
    have HB1:Hid (Below w.heap.size w w3):=ae HB.out.1 hB1;simp only at hsc
    clear hP1 hF1 ht1 hb3 hB1 hal hOf e2;go_wp2_with fail;go_fit hsc;rintro e w4 ⟨q2,rfl,hS,hb4⟩;have HF:Hid (HR D (EY 104 10) w4 w.heap.size w4.heap.size (rpl LL) ⟨q2,aE (LL.map (ax [-1])),aE (LL.map (ax [-1]))⟩/\Below w.heap.size w w4):=by
     rw[HR3.out];exact⟨(cT (bO 104 10)).wide hS HB1.out.size (Jr _),ae HB1.out hb4⟩
    clear hsc hS hb4;generalize aE (LL.map (ax [-1]))=m' at *
    go_wp2;go_ret;exact⟨⟨q2,m',m'⟩,rfl,HF.out.1,HF.out.2⟩
   ·have e1:u.s=false:=by rw[hus];exact decide_eq_false hl
    rw[e1];have HF:Hid (HR D (EY 104 10) v2 w.heap.size v2.heap.size (rpl LL) ⟨q',k,cap⟩/\Below w.heap.size w v2):=by
     refine⟨?_,HB.out.1⟩;rw[HR2.out,if_neg hl];exact HR.le ((cT (bO 100 9)).wide HB.out.2 HS.out (Jr _)) (by decide) (by decide)
    clear hus HR2 HB;go_wp2;go_ret;exact⟨⟨q',k,cap⟩,rfl,HF.out.1,HF.out.2⟩
end Go.Proofs.YtdjjlghlcffflaaGreatDoor
