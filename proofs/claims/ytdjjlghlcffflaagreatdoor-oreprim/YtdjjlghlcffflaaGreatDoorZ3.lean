/- Own. -/
import Derived.Test.YtdjjlghlcffflaaGreatDoorVj
set_option linter.unusedVariables false
set_option linter.unusedSimpArgs false
set_option maxHeartbeats 8000000
set_option maxRecDepth 100000
namespace Go.Proofs.YtdjjlghlcffflaaGreatDoor.Md
open Go.Proofs.YtdjjlghlcffflaaGreatDoor
open Go.Proofs.YtdjjlghlcffflaaGreatDoor.Cp (su mw my cU fB)
structure Rm(H:List Int)(al be:Nat->Int)(rv:List Int)(rho:Nat->Int)(ka:Int):Prop where
 v:∀t,gx rv t=ka*cvf rho (gx H) t
 k0:ka≠0
 idl:∀I,Idl 0 I->I be->(I al->I rho)/\(Sat I->I rho->I al)
 fin:∃N,∀t,N<=t->rho t=0
variable {g:Nat}
theorem jT{r h:Nat->Int}{d:Nat}(hr:∀t,d<t->r t=0)(hh:∀t,g<t->h t=0):cvf r h (d+g)=r d*h g:=by
 unfold cvf;have h1:=oV (p:=0) (f:=fun k=>r k*h (d+g-k)) d (d+g+1) (by omega) fun i hi hne=>by
  rcases Ju i d with h2|h2
  ·show(0:Int)∣r i*h (d+g-i)
   rw[hh _ (by omega),JC];exact Int.dvd_refl 0
  ·show(0:Int)∣r i*h (d+g-i)
   rw[hr _ (by omega),Int.zero_mul];exact Int.dvd_refl 0
 have h2:=Int.zero_dvd.1 h1;simp only[Nat.add_sub_cancel_left] at h2
 omega
theorem qM{r h:Nat->Int}{d:Nat}(hr:∀t,d<t->r t=0)(hh:∀t,g<t->h t=0)(t:Nat)(ht:d+g<t):cvf r h t=0:=by
 unfold cvf;refine fM _ fun i _=>?_
 show r i*h (t-i)=0
 rcases Ju d i with h2|h2
 ·rw[hr _ h2,Int.zero_mul]
 ·rw[hh _ (by omega),JC]
variable {n N:Nat}
theorem we{r h:Nat->Int}(hN:∀t,N<=t->r t=0)(hh:∀t,g<t->h t=0)(hg:h g≠0)(hz:∀t,n<=t->cvf r h t=0)(t:Nat)(ht:n<=t+g):r t=0:=by
 rcases re N hN with h1|⟨k,-,hk,hkz⟩
 ·exact h1 t
 ·rcases Ju k t with h2|h2
  ·exact hkz t h2
  ·exfalso
   have h3:=hz (k+g) (by omega)
   rw[jT hkz hh] at h3
   exact Int.mul_ne_zero hk hg h3
section
variable {H:List Int} {al be rho:Nat->Int} {rv bv:List Int} {ka:Int} {g mb:Nat}
theorem Rm.step(h:Rm H al be rv rho ka)(hg:H.length=g+1)(hH:gx H g≠0)(hb:∀t,gx bv t=cvf be (gx H) t)(hbz:∀t,mb<t->be t=0)(hb0:be mb≠0){D:Nat}(hn:ad rv=mb+g+1+D){rw':List Int}(hr:∀t,gx rw' t=gx bv (mb+g)*gx rv t-gx rv (mb+g+D)*(if t<D then 0 else gx bv (t-D))):
  Rm H al be rw' (el be mb D rho) (ka*gx H g)/\(∀t,mb+g+D<=t->gx rw' t=0):=by
 have hHz:∀t,g<t->gx H t=0:=fun t ht=>ak H (g+1) (by omega) t (by omega)
 obtain⟨N,hN⟩:=h.fin;have hz:∀t,mb+D<t->rho t=0:=fun t ht=>we hN hHz hH (n:=ad rv) (fun t ht=>by
  have h1:=h.v t;rw[az rv t ht] at h1
  exact(Int.mul_eq_zero.1 h1.symm).resolve_left h.k0) t (by omega)
 have e1:gx bv (mb+g)=be mb*gx H g:=by rw[hb,jT hbz hHz]
 have e2:gx rv (mb+g+D)=ka*(rho (mb+D)*gx H g):=by
  rw[h.v,show mb+g+D=mb+D+g by omega,jT hz hHz]
 have e3:∀t,cvf (el be mb D rho) (gx H) t=be mb*cvf rho (gx H) t-rho (mb+D)*(if t<D then 0 else gx bv (t-D)):=fun t=>by
  have h1:cvf (el be mb D rho) (gx H) t=cvf (fun k=>be mb*rho k+(-(rho (mb+D)))*(if k<D then 0 else be (k-D))) (gx H) t:=by
   unfold cvf;refine cU _ fun i _=>?_
   show el be mb D rho i*_=(be mb*rho i+(-(rho (mb+D)))*(if i<D then 0 else be (i-D)))*_
   unfold el;rw[Int.neg_mul];rfl
  rw[h1,pc,eY,eY,nW,Int.neg_mul];by_cases hD:t<D
  ·rw[if_pos hD,if_pos hD];omega
  ·rw[if_neg hD,if_neg hD,hb];omega
 refine⟨⟨fun t=>?_,Int.mul_ne_zero h.k0 hH,fun I hI hB=>?_,⟨max N (mb+D+1),fun t ht=>BM hbz hz t (by omega)⟩⟩,fun t ht=>?_⟩
 ·rw[hr t,e1,e2,h.v t,e3 t]
  generalize cvf rho (gx H) t=x;generalize (if t<D then (0:Int) else gx bv (t-D))=y
  rw[Int.mul_sub];have a1:be mb*gx H g*(ka*x)=ka*gx H g*(be mb*x):=by grind
  have a2:ka*(rho (mb+D)*gx H g)*y=ka*gx H g*(rho (mb+D)*y):=by grind
  rw[a1,a2]
 ·obtain⟨i1,i2⟩:=h.idl I hI hB
  exact⟨fun ha=>Fu hI hB (i1 ha),fun hS he=>i2 hS (BL hI hS hb0 hB he)⟩
 ·rw[hr t]
  rcases Ju (mb+g+D) t with h2|h2
  ·have h3:gx bv (t-D)=0:=by rw[hb,qM hbz hHz _ (by omega)]
   rw[az rv t (by omega),if_neg (by omega),h3]
   omega
  ·obtain rfl:t=mb+g+D:=by omega
   rw[if_neg (by omega),JD,JI,Int.sub_self]
theorem Rm.times(h:Rm H al be rv rho ka){c:Int}(hc:c≠0){rw':List Int}(hr:∀t,gx rw' t=c*gx rv t):Rm H al be rw' rho (c*ka):=
 ⟨fun t=>by rw[hr t,h.v t,JG],Int.mul_ne_zero hc h.k0,h.idl,h.fin⟩
theorem Rm.start(h:∀t,gx rv t=cvf (gx bv) (gx H) t):Rm H (gx bv) be rv (gx bv) 1:=
 ⟨fun t=>by rw[h t,Int.one_mul],by decide,fun I hI _=>⟨id,fun _=>id⟩,⟨bv.length,fun t ht=>ak bv _ (Jr _) t ht⟩⟩
end
variable {H:List Int}
theorem rY{r:Nat->Int}{x y:Nat}(hr:∀t,(r t).natAbs<=2^x)(hH:∀t,(gx H t).natAbs<=2^y)(hl:H.length<=8)(t:Nat):(cvf r (gx H) t).natAbs<=2^(x+y+3):=by
 have hterm:∀k,(r k*gx H (t-k)).natAbs<=2^(x+y):=fun k=>by
  rw[Int.natAbs_mul,Nat.pow_add];exact Nat.mul_le_mul (hr _) (hH _)
 have e8:2^(x+y+3)=8*2^(x+y):=by rw[Nat.pow_add];omega
 have hb:∀n,(su (fun k=>r k*gx H (t-k)) n).natAbs<=(n+8-(t+1))*2^(x+y)\/t+1<n:=fun n=>by
  induction n with
  |zero=>left;simp[su]
  |succ n ih=>
   rcases ih with ih|ih
   ·rcases Ju t n with h1|h1
    ·right;omega
    ·left
     rw[su];have h3:=Int.natAbs_add_le (su (fun k=>r k*gx H (t-k)) n) (r n*gx H (t-n))
     rcases Ju (t-n) 8 with h4|h4
     ·have h5:=hterm n
      have e:(n+1+8-(t+1))=(n+8-(t+1))+1:=by omega
      rw[e,Nat.add_mul,Nat.one_mul];omega
     ·have h5:r n*gx H (t-n)=0:=by rw[ak H 8 (by omega) _ h4,JC]
      have e:(n+1+8-(t+1))=0:=by omega
      have e2:(n+8-(t+1))=0:=by omega
      rw[e,Nat.zero_mul];rw[e2,Nat.zero_mul] at ih
      rw[h5];omega
   ·right;omega
 rcases hb (t+1) with h|h
 ·unfold cvf
  rw[e8];rwa [show t+1+8-(t+1)=8 by omega] at h
 ·omega
variable {c d:Int}
theorem Es{V W:List Int}(hV:Gs.Prm V)(hW:Gs.Prm W)(hc:c≠0)(hd:d≠0)(h:∀t,c*gx V t=d*gx W t)(v0:0<gx V n)(w0:0<gx W n)(t:Nat):gx V t=gx W t:=by
 have one:∀{U:List Int},Gs.Prm U->aB U=1:=fun {U} hU=>by
  have:=hU (aB U:Nat) (fj U);omega
 have key:∀{U X:List Int} {a b:Int},Gs.Prm U->(∀t,a*gx X t=b*gx U t)->a∣b:=fun {U X a b} hU he=>by
  have h1:∀t,a∣gx (U.map (b * ·)) t:=fun t=>by
   rw[Gs.eM _ (JC b),<-he t];exact Int.dvd_mul_right ..
  have h2:=kj h1 (U.map (b * ·)).length (Jr _);rw[List.take_length,so,one hU,Nat.mul_one] at h2
  exact Int.dvd_natAbs.1 h2
 have h1:=Int.natAbs_dvd_natAbs.2 (key hW h);have h2:=Int.natAbs_dvd_natAbs.2 (key hV fun t=>(h t).symm)
 have h3:=Nat.dvd_antisymm h1 h2;have h4:c=d\/c = -d:=by omega
 rcases h4 with rfl|rfl
 ·exact Int.eq_of_mul_eq_mul_left hc (h t)
 ·exfalso
  have h5:=h n;rw[Int.neg_mul] at h5
  rcases Int.lt_or_gt_of_ne hd with h6|h6
  ·have:=Int.mul_neg_of_neg_of_pos h6 v0
   have:=Int.mul_neg_of_neg_of_pos h6 w0;omega
  ·have:=Int.mul_pos h6 v0
   have:=Int.mul_pos h6 w0;omega
structure Chn(H av bv al be:List Int)(s u:Nat):Prop where
 hA:∀t,gx av t=cvf (gx al) (gx H) t
 hB:∀t,gx bv t=cvf (gx be) (gx H) t
 bP:Gs.Prm be
 aT:ad al=al.length
 bT:ad be=be.length
 al0:0<al.length
 be0:0<gx be (be.length-1)
 cop:Cop (gx al) (gx be)
 sb:∀t,(gx al t).natAbs<=2^s
 ub:∀t,(gx be t).natAbs<=2^u
variable {be:List Int}
theorem xr{d:Nat}(hg:H.length=g+1)(hd:be.length=d+1):cvf (gx be) (gx H) (d+g)=gx be d*gx H g/\∀t,d+g<t->cvf (gx be) (gx H) t=0:=
 ⟨jT (fun t ht=>ak be (d+1) (by omega) t (by omega)) (fun t ht=>ak H (g+1) (by omega) t (by omega)),fun t ht=>qM (fun t ht=>ak be (d+1) (by omega) t (by omega)) (fun t ht=>ak H (g+1) (by omega) t (by omega)) t ht⟩
theorem vk{bv:List Int}(hB:∀t,gx bv t=cvf (gx be) (gx H) t)(h1:ad be=be.length)(h2:ad H=H.length)(b0:0<be.length)(h0:0<H.length):ad bv+1=be.length+H.length:=by
 obtain⟨g,hg⟩:∃g,H.length=g+1:=⟨H.length-1,by omega⟩
 obtain⟨d,hd⟩:∃d,be.length=d+1:=⟨be.length-1,by omega⟩
 obtain⟨e1,e2⟩:=xr hg hd;have t1:=aw be (by omega)
 have t2:=aw H (by omega)
 rw[h1,hd,JD] at t1
 rw[h2,hg,JD] at t2
 have:=aX bv (d+g+1) (fun j hj=>by rw[hB,e2 j (by omega)]) (.inr (by rw[JD,hB,e1];exact Int.mul_ne_zero t1 t2))
 omega
section
variable {H av bv al be rv:List Int} {rho:Nat->Int} {ka:Int} {s u x:Nat}
theorem Chn.next(h:Chn H av bv al be s u)(hl:ad H=H.length)(h0:0<gx H (H.length-1))(hP:Gs.Prm H)(hr:Rm H (gx al) (gx be) rv rho ka)(hx:∀t,(rho t).natAbs<=2^x)(ht:ad rv=rv.length)(hr0:0<rv.length):
  ∃be':List Int,Chn H bv (aC rv) be be' u x/\be'.length+H.length=rv.length+1:=by
 obtain⟨N,hN⟩:=hr.fin;obtain⟨P,hPd⟩:∃P,P=tr (lst N rho):=⟨_,rfl⟩;have gP:∀t,gx P t=rho t:=fun t=>by rw[hPd,aN,om hN]
 have tP:ad P=P.length:=by rw[hPd,aM,af]
 have P0:0<P.length:=by
  rcases Jw P.length with h9|h9
  ·exfalso
   have h1:=aw rv (by omega)
   rw[hr.v,show cvf rho (gx H) (ad rv-1)=0 from fM _ fun i _=>by show rho i*_=0;rw[<-gP,az P i (by omega),Int.zero_mul],JC] at h1
   exact h1 rfl
  ·exact h9
 obtain⟨s1,s2,s3,s4,s5,s6⟩:=c9 tP P0;obtain⟨v1,v2,v3,v4,v5,v6⟩:=c9 ht hr0;have H0:0<H.length:=by have:=cM hP;omega
 obtain⟨g,hg⟩:∃g,H.length=g+1:=⟨H.length-1,by omega⟩
 obtain⟨d,hd⟩:∃d,P.length=d+1:=⟨P.length-1,by omega⟩
 have gW:∀t,gx (ax (aC P) H) t=cvf (gx (aC P)) (gx H) t:=fun t=>by rw[Sk.ao,b9]
 have hrv:∀t,gx rv t=(ka*prd P)*cvf (gx (aC P)) (gx H) t:=fun t=>by
  have ecv:cvf rho (gx H) t=prd P*cvf (gx (aC P)) (gx H) t:=by
   rw[<-eY];unfold cvf;refine Cp.cU _ fun i _=>?_
   show rho i*_=(prd P*gx (aC P) i)*_
   rw[<-gP,s6]
  rw[hr.v t,JG,ecv]
 obtain⟨e1,e2⟩:=xr (be:=aC P) hg (by rw[s4,hd])
 have htl:ad rv=d+g+1:=by
  refine aX rv (d+g+1) (fun j hj=>by rw[hrv,e2 j (by omega),JC]) (.inr ?_)
  rw[JD,hrv,e1];rw[hd,JD] at s2
  rw[hg,JD] at h0
  exact Int.mul_ne_zero (Int.mul_ne_zero hr.k0 s5) (Int.mul_ne_zero (by omega) (by omega))
 have hV:∀t,gx (aC rv) t=gx (ax (aC P) H) t:=Es (c:=prd rv) (d:=ka*prd P) v1 (Gs.Er s1 hP) v5 (Int.mul_ne_zero hr.k0 s5) (fun t=>by rw[<-v6,gW,hrv]) (n:=rv.length-1) v2 (by
  rw[gW,show rv.length-1=d+g by omega,e1]
  rw[hd,JD] at s2
  rw[hg,JD] at h0
  exact Int.mul_pos s2 h0)
 refine⟨aC P,⟨h.hB,fun t=>by rw[hV,gW],s1,h.bT,by rw[s3,s4],?_,by rw[s4];exact s2,fun dd M hM hI=>h.cop dd M hM fun I hI' hS hd'=>?_,h.ub,fun t=>?_⟩,by rw[s4];omega⟩
 ·have:=cM h.bP
  have:=h.bT;omega
 ·obtain⟨i1,i2⟩:=hI I hI' hS hd'
  have i3:I rho:=hI'.eq (hI'.mul (prd P) i2) fun t=>by rw[<-gP,s6]
  exact⟨(hr.idl I hI' i1).2 hS i3,i1⟩
 ·have h9:=hx t
  rw[<-gP,s6,Int.natAbs_mul] at h9
  have h10:1*(gx (aC P) t).natAbs<=(prd P).natAbs*(gx (aC P) t).natAbs:=Nat.mul_le_mul_right _ (by omega)
  omega
theorem Chn.last(h:Chn H av bv al be s u)(hl:ad H=H.length)(hbt:ad bv=bv.length)(hP:Gs.Prm H)(hr:Rm H (gx al) (gx be) rv rho ka)(h0:0<gx H (H.length-1))(hz:∀t,gx rv t=0):bv=H:=by
 have H0:0<H.length:=by have:=cM hP;omega
 obtain⟨g,hg⟩:∃g,H.length=g+1:=⟨H.length-1,by omega⟩
 obtain⟨N,hN⟩:=hr.fin;have hHz:∀t,g<t->gx H t=0:=fun t ht=>ak H (g+1) (by omega) t (by omega)
 rw[hg,JD] at h0
 have hrz:∀t,rho t=0:=fun t=>we hN hHz (by omega) (n:=0) (fun t _=>by
  have h1:=hr.v t;rw[hz t] at h1
  exact(Int.mul_eq_zero.1 h1.symm).resolve_left hr.k0) t (by omega)
 have hbc:∀t,0<t->gx be t=0:=h.cop (gx be) be.length (fun t ht=>ak be _ (Jr _) t ht) fun I hI hS hb=>⟨(hr.idl I hI hb).2 hS (mQ hI hb hrz),hb⟩
 have hb1:be.length=1:=by
  have h1:=cM h.bP;have h2:=h.bT;have h3:=aw be h1;rcases Ju 1 be.length with h4|h4
  ·exact absurd (hbc _ (by omega)) h3
  ·omega
 have h1:=h.be0;rw[hb1] at h1
 have h2:=h.bP (gx be 0) fun t=>by
  rcases Jw t with h3|h3
  ·subst h3;exact Int.dvd_refl _
  ·rw[hbc t h3];exact Int.dvd_zero _
 have h3:gx be 0=1:=by
  rw[show 1-1=0 from rfl] at h1
  omega
 have hv:∀t,gx bv t=gx H t:=fun t=>by
  rw[h.hB t];have e:cvf (gx be) (gx H) t=cvf (cst 1) (gx H) t:=by
   unfold cvf;refine Cp.cU _ fun i _=>?_
   show gx be i*_=cst 1 i*_
   unfold cst;rcases Jw i with h4|h4
   ·subst h4;rw[h3,if_pos rfl]
   ·rw[hbc i h4,if_neg (by omega)]
  rw[e,lP,Int.one_mul]
 exact dm _ _ (by rw[<-hbt,<-hl];exact k_ hv) fun t _=>hv t
theorem Chn.unit(h:Chn H av bv al be s u)(h1:be.length=1):Chn H av bv al be s 0:=by
 refine⟨h.hA,h.hB,h.bP,h.aT,h.bT,h.al0,h.be0,h.cop,h.sb,fun t=>?_⟩
 have h2:=h.bP (gx be 0) fun t=>by
  rcases Jw t with h3|h3
  ·subst h3;exact Int.dvd_refl _
  ·rw[ak be 1 (by omega) t h3];exact Int.dvd_zero _
 rcases Jw t with h3|h3
 ·subst h3;omega
 ·rw[ak be 1 (by omega) t h3];decide
end
def gm:Nat:=172
def Ck:Nat->Nat->Nat->Nat->Nat->Bool
 |0,_,_,_,_=>false
 |F+1,n,m,s,u=>decide (s+(n+1-m)*((if m=1 then 0 else u)+gm+1)+gm+3<=2700)&&(List.range m).all fun k=>k==0||Ck F m k (if m=1 then 0 else u) (s+(n+1-m)*((if m=1 then 0 else u)+1))
theorem Du:∀n,n<6->∀m,m<6->Ck 7 n m 72 72=true:=by decide +kernel
variable {F m:Nat}
theorem F7{s u:Nat}(h:Ck F n m s u=true):s+(n+1-m)*((if m=1 then 0 else u)+gm+1)+gm+3<=2700:=by
 cases F with
 |zero=>cases h
 |succ F=>
  rw[Ck,Bool.and_eq_true] at h
  exact of_decide_eq_true h.1
variable {k:Nat}
theorem F8{s u:Nat}(h:Ck (F+1) n m s u=true)(hk:k<m)(h0:0<k):Ck F m k (if m=1 then 0 else u) (s+(n+1-m)*((if m=1 then 0 else u)+1))=true:=by
 rw[Ck,Bool.and_eq_true] at h
 have h1:=List.all_eq_true.1 h.2 k (List.mem_range.2 hk);rcases Bool.or_eq_true_iff.1 h1 with h2|h2
 ·simp at h2;omega
 ·exact h2
end Go.Proofs.YtdjjlghlcffflaaGreatDoor.Md
namespace Go.Proofs.YtdjjlghlcffflaaGreatDoor
open Go.RowKit
variable {x:Int} {K:Nat}
theorem mV{X:Nat}(h:x.natAbs<=2^X)(hX:X<32*K):(x.natAbs:Int)<pw K:=by
 have h3:(2:Int)^(32*K)=pw K:=by rw[Int.pow_mul];rfl
 have h4:(2:Nat)^X<2^(32*K):=Nat.pow_lt_pow_right (by decide) hX
 have h6:((2^(32*K):Nat):Int)=(2:Int)^(32*K):=by rw[Int.natCast_pow];rfl
 rw[<-h3,<-h6];exact Int.ofNat_lt.2 (Nat.lt_of_le_of_lt h h4)
variable {zs:List Int} {k:Nat}
theorem fC(h:∀t,k<=t->gx zs t=0):ad zs<=k:=by
 rcases Ju k (ad zs) with h1|h1
 ·exact absurd (h _ (by omega)) (aw zs (by omega))
 ·exact h1
variable {ys:List Int}
theorem Gk(D:Nat)(c:Int)(t:Nat):gx (ax (mono D c) ys) t=if t<D then 0 else c*gx ys (t-D):=by
 rw[Sk.ao];have e:∀i,gx (mono D c) i=(fun k=>if k<D then (0:Int) else (fun j=>if j=0 then c else 0) (k-D)) i:=fun i=>by
  rw[dL];show _=if i<D then (0:Int) else if i-D=0 then c else 0
  by_cases h:i=D
  ·subst h;rw[if_pos rfl,if_neg (by omega),if_pos (by omega)]
  ·rw[if_neg h]
   by_cases h2:i<D
   ·rw[if_pos h2]
   ·rw[if_neg h2,if_neg (by omega)]
 rw[Sk.a_ e (fun _=>rfl),<-Md.b9,Md.nW D (fun j=>if j=0 then c else 0) (gx ys) t]
 by_cases h:t<D
 ·rw[if_pos h,if_pos h]
 ·rw[if_neg h,if_neg h,Md.b9,Sk.wb]
def Xb(s u k:Nat):Nat:=s+k*(u+Md.gm+1)+Md.gm+3
theorem pX(s u k:Nat):Xb s u (k+1)=Xb s u k+(u+Md.gm+1):=by
 unfold Xb;rw[Nat.add_mul,Nat.one_mul];omega
theorem zV{s u l:Nat}(h:k<=l):Xb s u k<=Xb s u l:=by
 unfold Xb;have:=Nat.mul_le_mul_right (u+Md.gm+1) h;omega
structure PK3(H al be bv:List Int)(g mb m u:Nat):Prop where
 hg:H.length=g+1
 hH:gx H g≠0
 h8:H.length<=8
 hb:∀t,gx bv t=Md.cvf (gx be) (gx H) t
 bz:∀t,mb<t->gx be t=0
 b0:gx be mb≠0
 em:m=mb+g+1
 Hb:∀t,(gx H t).natAbs<=2^Md.gm
 ub:∀t,(gx be t).natAbs<=2^u
structure PX(w wr:World)(H al be:List Int)(n s u i j:Nat)(pq pr:Option Addr)(nq nr:Nat)(eq er:List Ent)(qz rz:List Int)(rho:Nat->Int)(ka:Int):Prop where
 q:PR wr 170 pq nq nq eq qz
 r:PR wr 170 pr nr nr er rz
 qn:ad qz=nq
 rn:ad rz=nr
 rm:Md.Rm H (gx al) (gx be) rz rho ka
 rb:∀t,(rho t).natAbs<=2^(s+i*(u+1))
 kb:ka.natAbs<=2^(Md.gm*i+(u+Md.gm)*j)
 qb:∀t,(gx qz t).natAbs<=2^Xb s u (i+j)
 le:nr+i<=n
 ql:nq<=12
 bw:Below w.heap.size w wr
section
variable {w wr w':World} {H al be bv:List Int} {n s u i j g mb m:Nat} {pq pr:Option Addr} {nq nr:Nat} {eq er:List Ent} {qz rz:List Int} {rho:Nat->Int} {ka:Int}
theorem PX.later(h:PX w wr H al be n s u i j pq pr nq nr eq er qz rz rho ka)(hb:Below wr.heap.size wr w'):PX w w' H al be n s u i j pq pr nq nr eq er qz rz rho ka:=
 ⟨h.q.below hb,h.r.below hb,h.qn,h.rn,h.rm,h.rb,h.kb,h.qb,h.le,h.ql,ae h.bw hb⟩
theorem PX.rbd(h:PX w wr H al be n s u i j pq pr nq nr eq er qz rz rho ka)(K:PK3 H al be bv g mb m u)(t:Nat):(gx rz t).natAbs<=2^Xb s u (i+j):=by
 rw[h.rm.v t,Int.natAbs_mul];have h1:=Md.rY h.rb K.Hb K.h8 t;refine JA (Nat.mul_le_mul h.kb h1) ?_;rw[<-Nat.pow_add];refine Nat.pow_le_pow_right (by decide) ?_
 unfold Xb;rw[Nat.mul_add i,Nat.mul_one,Nat.add_mul i j,Nat.mul_add i (u+Md.gm),Nat.mul_add j (u+Md.gm),Nat.mul_add i u,Nat.mul_comm Md.gm i,Nat.mul_comm (u+Md.gm) j];generalize i*u=a;generalize i*Md.gm=b;generalize j*(u+Md.gm)=c;omega
theorem PK3.bbd(K:PK3 H al be bv g mb m u)(t:Nat):(gx bv t).natAbs<=2^(u+Md.gm+3):=by
 rw[K.hb];exact Md.rY K.ub K.Hb K.h8 t
theorem PK3.lead(K:PK3 H al be bv g mb m u):gx bv (m-1)=gx be mb*gx H g/\gx bv (m-1)≠0/\(gx bv (m-1)).natAbs<=2^(u+Md.gm):=by
 have e:m-1=mb+g:=by have:=K.em;omega
 have h1:gx bv (m-1)=gx be mb*gx H g:=by
  rw[e,K.hb];exact Md.jT K.bz fun t ht=>ak H (g+1) (by rw[K.hg];exact Jr _) t (by omega)
 refine⟨h1,by rw[h1];exact Int.mul_ne_zero K.b0 K.hH,?_⟩
 rw[h1,Int.natAbs_mul,Nat.pow_add];exact Nat.mul_le_mul (K.ub _) (K.Hb _)
theorem PX.step(h:PX w wr H al be n s u i 0 pq pr nq nr eq er qz rz rho ka)(K:PK3 H al be bv g mb m u){D:Nat}(hD:nr=m+D)(hn:n<=12)(hX:Xb s u (i+1)<=2700){w2:World}(hb:Below wr.heap.size wr w2){pq2 pr2:Option Addr}{nq2 nr2 N N2:Nat}{eq2 er2:List Ent}
  (hq:PR w2 N pq2 nq2 nq2 eq2 (tr (pz (· + ·) (tr (qz.map (gx bv (m-1) * ·))) (mono D (gx rz (nr-1)))))) (hr:PR w2 N2 pr2 nr2 nr2 er2 (tr (pz (· - ·) (tr (rz.map (gx bv (m-1) * ·))) (ax (mono D (gx rz (nr-1))) bv))))
  (hqt:ad (tr (pz (· + ·) (tr (qz.map (gx bv (m-1) * ·))) (mono D (gx rz (nr-1)))))=nq2) (hrt:ad (tr (pz (· - ·) (tr (rz.map (gx bv (m-1) * ·))) (ax (mono D (gx rz (nr-1))) bv)))=nr2):
  nr2<nr/\∃rho2 ka2,PX w w2 H al be n s u (i+1) 0 pq2 pr2 nq2 nr2 eq2 er2 (tr (pz (· + ·) (tr (qz.map (gx bv (m-1) * ·))) (mono D (gx rz (nr-1))))) (tr (pz (· - ·) (tr (rz.map (gx bv (m-1) * ·))) (ax (mono D (gx rz (nr-1))) bv))) rho2 ka2:=by
 obtain⟨l1,l2,l3⟩:=K.lead;have gm1:∀(zs:List Int) (t:Nat),gx (tr (zs.map (gx bv (m-1) * ·))) t=gx bv (m-1)*gx zs t:=fun zs t=>by rw[aN,Gs.eM _ (JC _)]
 have em:=K.em;obtain⟨s1,s2⟩:=h.rm.step K.hg K.hH K.hb K.bz K.b0 (D:=D) (by rw[h.rn,hD,em]) (rw':=tr (pz (· - ·) (tr (rz.map (gx bv (m-1) * ·))) (ax (mono D (gx rz (nr-1))) bv))) (fun t=>by
  rw[aN,dS _ rfl,gm1,Gk,show m-1=mb+g by omega,show nr-1=mb+g+D by omega]
  by_cases h9:t<D
  ·rw[if_pos h9,if_pos h9,JC]
  ·rw[if_neg h9,if_neg h9])
 have h2:nr2<nr:=by
  have:=fC s2;omega
 have hqb:∀t,(gx (tr (pz (· + ·) (tr (qz.map (gx bv (m-1) * ·))) (mono D (gx rz (nr-1))))) t).natAbs<=2^Xb s u (i+1):=fun t=>by
  rw[aN,dS _ rfl,gm1,dL,pX,<-Nat.add_assoc,Nat.pow_succ,Nat.pow_add];have a1:=h.qb t;have a2:=h.rbd K (nr-1);rw[Nat.add_zero] at a1 a2
  have a3:=Nat.mul_le_mul l3 a1;rw[<-Int.natAbs_mul] at a3
  have a4:=Int.natAbs_add_le (gx bv (m-1)*gx qz t) (if t=D then gx rz (nr-1) else 0)
  have a5:(if t=D then gx rz (nr-1) else 0).natAbs<=2^Xb s u i:=by
   split
   ·exact a2
   ·simp
  have a6:2^Xb s u i*1<=2^Xb s u i*2^(u+Md.gm):=Nat.mul_le_mul_left _ (Nat.pow_pos (by decide))
  rw[Nat.mul_comm (2^(u+Md.gm))] at a3
  omega
 have hnew:PX w w2 H al be n s u (i+1) 0 pq2 pr2 nq2 nr2 eq2 er2 (tr (pz (· + ·) (tr (qz.map (gx bv (m-1) * ·))) (mono D (gx rz (nr-1))))) (tr (pz (· - ·) (tr (rz.map (gx bv (m-1) * ·))) (ax (mono D (gx rz (nr-1))) bv))) (Md.el (gx be) mb D rho) (ka*gx H g)->True:=fun _=>trivial
 have hrb2:∀t,(Md.el (gx be) mb D rho t).natAbs<=2^(s+(i+1)*(u+1)):=fun t=>by
  have:=Md.Ft (b:=gx be) (f:=rho) (m:=mb) (j:=D) K.ub h.rb t;rwa [show s+i*(u+1)+(u+1)=s+(i+1)*(u+1) by rw[Nat.add_mul i 1,Nat.one_mul];omega] at this
 have hkb2:(ka*gx H g).natAbs<=2^(Md.gm*(i+1)+(u+Md.gm)*0):=by
  rw[Int.natAbs_mul,Nat.mul_zero,Nat.add_zero,Nat.mul_add,Nat.mul_one,Nat.pow_add];have:=h.kb;rw[Nat.mul_zero,Nat.add_zero] at this
  exact Nat.mul_le_mul this (K.Hb g)
 have hrbd:∀t,(gx (tr (pz (· - ·) (tr (rz.map (gx bv (m-1) * ·))) (ax (mono D (gx rz (nr-1))) bv))) t).natAbs<=2^Xb s u (i+1):=fun t=>by
  rw[s1.v t,Int.natAbs_mul];have h1:=Md.rY hrb2 K.Hb K.h8 t;refine JA (Nat.mul_le_mul hkb2 h1) ?_;rw[<-Nat.pow_add];refine Nat.pow_le_pow_right (by decide) ?_
  unfold Xb;rw[Nat.mul_zero,Nat.add_zero,Nat.mul_comm Md.gm,Nat.mul_add (i+1) (u+Md.gm),Nat.mul_add (i+1) u,Nat.mul_add (i+1) u];generalize (i+1)*u=a;generalize (i+1)*Md.gm=b;omega
 refine⟨h2,Md.el (gx be) mb D rho,ka*gx H g,⟨hq.fit (M:=85) fun t=>mV (hqb t) (by omega),hr.fit (M:=85) fun t=>mV (hrbd t) (by omega),hqt,hrt,s1,hrb2,hkb2,hqb,by have:=h.le;omega,?_,ae h.bw hb⟩⟩
 rw[<-hqt,aM];refine fC fun t ht=>?_
 have:=h.le;have:=h.ql;rw[dS _ rfl,gm1,az qz t (by rw[h.qn];omega),JC,dL,if_neg (by omega)]
 rfl
theorem PX.mult(h:PX w wr H al be n s u i j pq pr nq nr eq er qz rz rho ka)(K:PK3 H al be bv g mb m u)(hX:Xb s u (i+(j+1))<=2700){w2:World}(hb:Below wr.heap.size wr w2){pq2 pr2:Option Addr}{nq2 nr2 N:Nat}{eq2 er2:List Ent}
  (hq:PR w2 N pq2 nq2 nq2 eq2 (tr (qz.map (gx bv (m-1) * ·)))) (hr:PR w2 N pr2 nr2 nr2 er2 (tr (rz.map (gx bv (m-1) * ·)))) (hqt:ad (tr (qz.map (gx bv (m-1) * ·)))=nq2) (hrt:ad (tr (rz.map (gx bv (m-1) * ·)))=nr2):
  nr2<=nr/\∃rho2 ka2,PX w w2 H al be n s u i (j+1) pq2 pr2 nq2 nr2 eq2 er2 (tr (qz.map (gx bv (m-1) * ·))) (tr (rz.map (gx bv (m-1) * ·))) rho2 ka2:=by
 obtain⟨l1,l2,l3⟩:=K.lead;have gm1:∀(zs:List Int) (t:Nat),gx (tr (zs.map (gx bv (m-1) * ·))) t=gx bv (m-1)*gx zs t:=fun zs t=>by rw[aN,Gs.eM _ (JC _)]
 have hle:∀zs:List Int,ad (tr (zs.map (gx bv (m-1) * ·)))<=ad zs:=fun zs=>fC fun t ht=>by rw[gm1,az zs t ht,JC]
 have hbits:∀(zs:List Int),(∀t,(gx zs t).natAbs<=2^Xb s u (i+j))->∀t,(gx (tr (zs.map (gx bv (m-1) * ·))) t).natAbs<=2^Xb s u (i+(j+1)):=fun zs hz t=>by
  rw[gm1,Int.natAbs_mul,<-Nat.add_assoc,pX];have a3:=Nat.mul_le_mul l3 (hz t);rw[<-Nat.pow_add] at a3
  exact JA a3 (Nat.pow_le_pow_right (by decide) (by omega))
 have hq2:=hbits qz h.qb;have hr2:=hbits rz (h.rbd K);have hkb2:(gx bv (m-1)*ka).natAbs<=2^(Md.gm*i+(u+Md.gm)*(j+1)):=by
  rw[Int.natAbs_mul,Nat.mul_add (u+Md.gm),Nat.mul_one,<-Nat.add_assoc,Nat.pow_add,Nat.mul_comm];exact Nat.mul_le_mul h.kb l3
 have hlr:=hle rz;have hlq:=hle qz;rw[hrt,h.rn] at hlr
 rw[hqt,h.qn] at hlq
 exact⟨hlr,rho,gx bv (m-1)*ka,⟨hq.fit (M:=85) fun t=>mV (hq2 t) (by omega),hr.fit (M:=85) fun t=>mV (hr2 t) (by omega),hqt,hrt,h.rm.times l2 (gm1 rz),h.rb,hkb2,hq2,by have:=h.le;omega,by have:=h.ql;omega,ae h.bw hb⟩⟩
end
variable {w:World} {N g:Nat} {z:Int} {e:Ent} {t:TypeId} {es:List Ent}
theorem RE.offr(h:RE w N z e)(hg:bA w g t es):0<e.n->Off g e.p:=by
 obtain⟨⟨ds,h1,rfl,h3⟩,h4⟩:=h;intro h0 a ha hb;obtain⟨b,o,hp,hc⟩:=h1.rd (by rw[h1.len];exact h0)
 rw[hp] at ha
 cases ha
 simp only at hb;subst hb
 have hc0:=hc 0 (by rw[h1.len];exact h0)
 rw[cell_of_row w b (o+0) _ t (0,0) hg] at hc0
 rcases Ju ((o+0)/2) es.length with h5|h5
 ·obtain⟨h6,h7⟩:=gn es ((o+0)/2) h5
  simp only[ca2,List.getElem?_toArray] at hc0
  rcases Nat.mod_two_eq_zero_or_one (o+0) with h8|h8
  ·rw[show o+0=(o+0)/2*2 by omega,h6] at hc0;cases hc0
  ·rw[show o+0=(o+0)/2*2+1 by omega,h7] at hc0;cases hc0
 ·rw[Array.getElem?_eq_none (by rw[rK];omega)] at hc0
  cases hc0
def PsP(H al be:List Int)(n m s u:Nat)(w:World)(r:Ending)(w':World):Prop:=
 ∃(pq pr:Option Addr) (nq nr:Nat) (er:List Ent) (rz:List Int) (rho:Nat->Int) (ka:Int),r=.returned (.tuple #[.slice pq nq nq,.slice pr nr nr])/\PR w' 170 pr nr nr er rz/\ad rz=nr/\nr<m/\nr<=n/\Md.Rm H (gx al) (gx be) rz rho ka/\(∀t,(rho t).natAbs<=2^(s+(n+1-m)*(u+1)))/\Below w.heap.size w w'
variable {H be:List Int} {p q:Option Addr} {n m:Nat} {fs:List Ent}
theorem oO{al av bv:List Int}{mb s u:Nat}(h:PR w 170 p n n es av)(k:PR w 170 q m m fs bv)(ha:ad av=n)(hbt:ad bv=m)(hn:n<=12)(hm:m<=12)(K:PK3 H al be bv g mb m u)(hA:∀t,gx av t=Md.cvf (gx al) (gx H) t)(hs:∀t,(gx al t).natAbs<=2^s)(hX:Xb s u (n+1-m)<=2700):
  Calls Tryz.prog 88 #[.slice p n n,.slice q m m] w (PsP H al be n m s u w):=by
 have hm1:1<=m:=by have:=K.em;omega
 have HX:Hid (PR w 170 q m m fs bv/\PK3 H al be bv g mb m u/\Xb s u (n+1-m)<=2700):=⟨k,K,hX⟩;have HI:Hid (PX w w H al be n s u 0 0 none p 0 n [] es [] av (gx al) 1):=by
  refine⟨⟨rfl,rfl,Jr _,Jz _,PL.nil,fun j hj=>by omega⟩,h,rfl,ha,Md.Rm.start hA,fun t=>by rw[Nat.zero_mul,Nat.add_zero];exact hs t,Nat.pow_pos (by decide),fun t=>by simp[gx],by omega,Jz _,Jt _ _⟩
 clear h k ha hbt K hA hs hX;have hd1:=dK p n n w (by omega)
 go_enter Tryz.func88,Tryz.ntmps88;go_wp2_with fail;go_fit hd1;rintro r w1 ⟨rfl,hb1⟩;have hd2:=dK q m m w1 (by omega)
 clear hd1;go_wp2_with fail;go_fit hd2;rintro r w2 ⟨rfl,hb2⟩;clear hd2;obtain⟨e0,he0⟩:∃e0:Int,e0=(n:Int)-(m:Int)+1:=⟨_,rfl⟩;have v1:IntKind.i64.wrap ((n:Int)-1-((m:Int)-1)+1)=e0:=by rw[IntKind.wrap_i64];omega
 have v2:IntKind.i64.wrap ((n:Int)-1-((m:Int)-1))=(n:Int)-1-((m:Int)-1):=by rw[IntKind.wrap_i64];omega
 have HE:=(show Hid _ from he0)
 have hle:=iE (HX.out.1.below (ae hb1 hb2)) (by omega) (by decide)
 have HB2:Hid (Below w.heap.size w w2):=ae hb1 hb2;clear hb1 hb2 he0;go_wp2_with fail;go_fit hle;rintro r w3 ⟨ul,rfl,hul,hb3⟩;clear hle;go_wp2_with fail;have hal:=ag (o:=.cells #[.bool ul.s,.slice ul.p ul.n ul.c] 65) (Jt w3.heap.size w3);have hXl:Bx (w3.alloc (.cells #[.bool ul.s,.slice ul.p ul.n ul.c] 65)) w3.heap.size (.bool ul.s) (.slice ul.p ul.n ul.c):=Bx.new _ _ _ rfl;have HI3:=(show Hid _ from HI.out.later (ae (ae HB2.out hb3) hal))
 have hul3:=hul.below hal;have HBW:Hid (Below w.heap.size w (w3.alloc (.cells #[.bool ul.s,.slice ul.p ul.n ul.c] 65))):=ae (ae HB2.out hb3) hal;clear HI hul hb3 hal HB2;generalize w3.alloc (.cells #[.bool ul.s,.slice ul.p ul.n ul.c] 65)=W3 at *
 generalize w3.heap.size=gl at *
 have HL:Hid (Bx W3 gl (.bool ul.s) (.slice ul.p ul.n ul.c)/\RE W3 170 (gx bv (m-1)) ul):=⟨hXl,hul3⟩;clear hXl hul3 v1 v2;go_loopw [6,7,8,10] (fun qv rv ev _ wr=>∃(i:Nat) (x:Int) (pq pr:Option Addr) (nq nr:Nat) (eq er:List Ent) (qz rz:List Int) (rho:Nat->Int) (ka:Int),qv=.slice pq nq nq/\rv=.slice pr nr nr/\ev=.int .i64 x/\nr<=12/\i<=12/\nq<=12/\-30<=x/\x<=30/\Hid (PX w wr H al be n s u i 0 pq pr nq nr eq er qz rz rho ka/\Below W3.heap.size W3 wr/\x=e0-(i:Int)/\(0<i->i<=n+1-m))) (fun _ rv _ _ _=>pT rv)
 case atStart=>exact⟨0,e0,none,p,0,n,[],es,[],av,gx al,1,rfl,rfl,rfl,hn,by decide,by decide,by have:=HE.out;omega,by have:=HE.out;omega,HI3.out,Jt _ _,by omega,fun h9=>absurd h9 (by decide)⟩
 case round=>
  clear HI3;obtain⟨i,x,pq,pr,nq,nr,eq,er,qz,rz,rho,ka,rfl,rfl,rfl,hnr,hi,hnq,hx1,hx2,HR⟩:=hrel;have hd1:=dK pr nr nr wr (by omega)
  go_wp2_with fail;go_fit hd1;rintro r v1 ⟨rfl,hc1⟩;have hd2:=dK q m m v1 (by omega)
  clear hd1;go_wp2_with fail;go_fit hd2;rintro r v2 ⟨rfl,hc2⟩;clear hd2;have H2:Hid (PX w v2 H al be n s u i 0 pq pr nq nr eq er qz rz rho ka/\Below W3.heap.size W3 v2/\x=e0-(i:Int)):=⟨HR.out.1.later (ae hc1 hc2),ae HR.out.2.1 (ae hc1 hc2),HR.out.2.2.1⟩;have HL2:Hid (0<i->i<=n+1-m):=HR.out.2.2.2;clear HR hc1 hc2;rcases Ju nr m with hlt|hge
  ·have i2:¬(m:Int)-1<=(nr:Int)-1:=by omega
   go_wp2_with fail;have hdec:decide (m<=nr)=false:=decide_eq_false (by omega)
   try rw[hdec]
   clear hdec;go_loopw [6,7,8] (fun qv rv ev wr=>∃(j:Nat) (y:Int) (pq pr:Option Addr) (nq nr:Nat) (eq er:List Ent) (qz rz:List Int) (rho:Nat->Int) (ka:Int),qv=.slice pq nq nq/\rv=.slice pr nr nr/\ev=.int .i64 y/\nr<m/\nr<=12/\nq<=12/\-30<=y/\y<=30/\Hid (PX w wr H al be n s u i j pq pr nq nr eq er qz rz rho ka/\Below W3.heap.size W3 wr/\y=e0-(i:Int)-(j:Int)/\(0<j->0<=y))) (fun _ _ ev _=>(intOf ev).toNat)
   case atStart=>exact⟨0,x,pq,pr,nq,nr,eq,er,qz,rz,rho,ka,rfl,rfl,rfl,hlt,hnr,hnq,hx1,hx2,H2.out.1,H2.out.2.1,by have:=H2.out.2.2;omega,fun h9=>absurd h9 (by decide)⟩
   case round=>
    clear H2 hx1 hx2 hnr hnq hlt i2;obtain⟨j,y,pq,pr,nq,nr,eq,er,qz,rz,rho,ka,rfl,rfl,rfl,hlt,hnr,hnq,hy1,hy2,HR⟩:=hrel;rcases Int.lt_or_le 0 y with hy|hy
    ·obtain⟨q0,q1,-,-⟩:=HL.out.1.later HR.out.2.1
     have hsc:=fe HR.out.1.q (HL.out.2.below HR.out.2.1) (by omega) (by decide) (by decide)
     go_wp2_with fail;go_fit hsc;rintro r y1 ⟨pa,na,ea,rfl,ha1,-,hat,hd1⟩;clear hsc q0 q1;obtain⟨q0,q1,-,-⟩:=HL.out.1.later (ae HR.out.2.1 hd1);have hsc:=fe (HR.out.1.r.below hd1) (HL.out.2.below (ae HR.out.2.1 hd1)) (by omega) (by decide) (by decide)
     go_wp2_with fail;go_fit hsc;rintro r y2 ⟨pb2,nb2,eb2,rfl,hb2,-,hbt2,hd2⟩;clear hsc q0 q1;have hB2:Below wr.heap.size wr y2:=ae hd1 hd2;obtain⟨k1,rho2,ka2,hnew⟩:=HR.out.1.mult HX.out.2.1 (JA (zV (by
      have h1:=HR.out.2.2.1;have h2:=HE.out;omega)) HX.out.2.2) hB2 (ha1.below hd2) hb2 hat hbt2
     have hql2:=hnew.ql;have HNW:Hid (PX w y2 H al be n s u i (j+1) pa pb2 na nb2 ea eb2 _ _ rho2 ka2/\Below W3.heap.size W3 y2/\y-1=e0-(i:Int)-((j+1:Nat):Int)/\(0<j+1->0<=y-1)):=⟨hnew,ae HR.out.2.1 hB2,by have:=HR.out.2.2.1;omega,fun _=>by omega⟩
     have v9:IntKind.i64.wrap (y-1)=y-1:=by rw[IntKind.wrap_i64];omega
     clear ha1 hat hb2 hbt2 hd1 hd2 hB2 hnew HR;go_wp2;go_round
     case rel=>exact⟨j+1,y-1,pa,pb2,na,nb2,ea,eb2,_,_,rho2,ka2,rfl,rfl,rfl,by omega,by omega,hql2,by omega,by omega,HNW.out⟩
     case measure=>simp[intOf];omega
    ·have hy':¬0<y:=by omega
     have HF:Hid (PsP H al be n m s u w (.returned (.tuple #[.slice pq nq nq,.slice pr nr nr])) wr):=by
      refine⟨pq,pr,nq,nr,er,rz,rho,ka,rfl,HR.out.1.r,HR.out.1.rn,hlt,by have:=HR.out.1.le;omega,HR.out.1.rm,fun t=>?_,HR.out.1.bw⟩
      refine JA (HR.out.1.rb t) (Nat.pow_le_pow_right (by decide) ?_)
      have hle:=HR.out.1.le;rcases Jw i with h0|h0
      ·rw[h0,Nat.zero_mul];omega
      ·have h2:=HL2.out h0
       have:=Nat.mul_le_mul_right (u+1) h2;omega
     clear HR hy;go_wp2;go_ret2;exact HF.out
  ·have i2:(m:Int)-1<=(nr:Int)-1:=by omega
   have hd1:=dK pr nr nr v2 (by omega)
   go_wp2_with fail;go_fit hd1;rintro r v3 ⟨rfl,hc3⟩;have hd2:=dK q m m v3 (by omega)
   clear hd1;go_wp2_with fail;go_fit hd2;rintro r v4 ⟨rfl,hc4⟩;clear hd2;have H4:Hid (PX w v4 H al be n s u i 0 pq pr nq nr eq er qz rz rho ka/\Below W3.heap.size W3 v4/\x=e0-(i:Int)):=⟨H2.out.1.later (ae hc3 hc4),ae H2.out.2.1 (ae hc3 hc4),H2.out.2.2⟩;clear H2 hc3 hc4;obtain⟨kd,hkd⟩:∃kd,kd=nr-m:=⟨_,rfl⟩;obtain⟨kt,hkt⟩:∃kt,kt=kd+1:=⟨_,rfl⟩;have j1:(nr:Int)-1-((m:Int)-1)+1=(kt:Int):=by omega
   have j2:(kt:Int)-1=(kd:Int):=by omega
   have j3:(kd:Int)<(kt:Int):=by omega
   have v1':IntKind.i64.wrap (kd:Int)=(kd:Int):=by rw[IntKind.wrap_i64];omega
   have v2':IntKind.i64.wrap (kt:Int)=(kt:Int):=by rw[IntKind.wrap_i64];omega
   have v3':IntKind.i64.wrap ((nr:Int)-1-((m:Int)-1))=(nr:Int)-1-((m:Int)-1):=by rw[IntKind.wrap_i64];omega
   have hkt9:kt<=12:=by omega
   have HK:Hid (kd=nr-m/\kt=kd+1/\nr=m+kd):=⟨hkd,hkt,by omega⟩
   have hmk:=rk kt (by omega)
   have halm:Below v4.heap.size v4 (v4.alloc (.cells (ca2 (ezs kt)) 65)):=ag (Jt _ _);have hle1:=iE (H4.out.1.r.below halm) (by omega) (by decide)
   clear hkd hkt;go_wp2_with fail;go_fit hle1;rintro r v5 ⟨u9,rfl,hu9,hb9⟩;clear hle1 hmk;have hR0:=(bA.new v4 65 (ezs kt)).below hb9 (by simp)
   obtain⟨x0,x1⟩:=hR0.cell kd (by rw[bL];omega)
   have f0:=hR0.frozen (kd*2);have f1:=hR0.frozen (kd*2+1);rw[jy] at x0 x1
   have j4:(0:Int)<=(kd:Int):=by omega
   have hult:=(eC 170).lt hu9;have hB5:Below v4.heap.size v4 v5:=ae halm hb9;clear halm hb9;go_upto_region 8 with fail
   have hB9:Below v4.heap.size v4 ((v5.setCell ⟨v4.heap.size,kd*2,none⟩ (.bool u9.s)).setCell ⟨v4.heap.size,kd*2+1,none⟩ (.slice u9.p u9.n u9.c)):=cF (cF hB5 (Jr _)) (Jr _);have HT:Hid (PR ((v5.setCell ⟨v4.heap.size,kd*2,none⟩ (.bool u9.s)).setCell ⟨v4.heap.size,kd*2+1,none⟩ (.slice u9.p u9.n u9.c)) 170 (some ⟨v4.heap.size,0,none⟩) kt kt ((ezs kt).set kd u9) (mono kd (gx rz (nr-1)))):=by
    have hkk:=HK.out;refine⟨by rw[List.length_set,bL],by rw[eE];exact hkk.2.1.symm,Jr _,by unfold maxLen;omega,(hR0.set kd u9 (by rw[bL];omega)).pl,fun t ht=>?_⟩
    rw[dL];by_cases he:t=kd
    ·subst he
     rw[if_pos rfl,cR _ _ _ (by rw[bL];omega)]
     exact hu9.b8 (hu9.offr hR0)
    ·rw[if_neg he,cG _ _ _ _ he,jy]
     exact(RF.ez 0 _ 170).1
   have H9:Hid (PX w ((v5.setCell ⟨v4.heap.size,kd*2,none⟩ (.bool u9.s)).setCell ⟨v4.heap.size,kd*2+1,none⟩ (.slice u9.p u9.n u9.c)) H al be n s u i 0 pq pr nq nr eq er qz rz rho ka/\Below W3.heap.size W3 ((v5.setCell ⟨v4.heap.size,kd*2,none⟩ (.bool u9.s)).setCell ⟨v4.heap.size,kd*2+1,none⟩ (.slice u9.p u9.n u9.c))/\x=e0-(i:Int)):=⟨H4.out.1.later hB9,ae H4.out.2.1 hB9,H4.out.2.2⟩;clear x0 x1 f0 f1 hR0 hu9 hult hB5 hB9 H4;generalize (v5.setCell ⟨v4.heap.size,kd*2,none⟩ (.bool u9.s)).setCell ⟨v4.heap.size,kd*2+1,none⟩ (.slice u9.p u9.n u9.c)=v6 at *
   generalize v4.heap.size=gt at *
   obtain⟨q0,q1,-,-⟩:=HL.out.1.later H9.out.2.1;have hsc:=fe H9.out.1.q (HL.out.2.below H9.out.2.1) (by omega) (by decide) (by decide)
   go_wp2_with fail;go_fit hsc;rintro r y1 ⟨pa,na,ea,rfl,ha1,-,hat,hd1⟩;clear hsc q0 q1;have hna:na<=12:=by
    have h1:=ha1.zl;have h2:=aj (qz.map (gx bv (m-1) * ·));rw[af] at h1
    rw[List.length_map,H9.out.1.q.zl] at h2
    omega
   have had:=uZ ha1 (HT.out.below hd1) (by omega) (by omega) (by decide) (by decide) (by decide) (by decide)
   go_wp2_with fail;go_fit had;rintro r y2 ⟨pq2,nq2,eq2,rfl,hq2,-,hqt,hd2⟩;clear had ha1 hat;have hB2:Below v6.heap.size v6 y2:=ae hd1 hd2;obtain⟨q0,q1,-,-⟩:=HL.out.1.later (ae H9.out.2.1 hB2);have hsc:=fe (H9.out.1.r.below hB2) (HL.out.2.below (ae H9.out.2.1 hB2)) (by omega) (by decide) (by decide)
   clear hd1 hd2;go_wp2_with fail;go_fit hsc;rintro r y3 ⟨pb2,nb2,eb2,rfl,hb2,-,hbt2,hd3⟩;clear hsc q0 q1;have hnb:nb2<=12:=by
    have h1:=hb2.zl;have h2:=aj (rz.map (gx bv (m-1) * ·));rw[af] at h1
    rw[List.length_map,H9.out.1.r.zl] at h2
    omega
   have HN:Hid (Xb s u (i+1)<=2700/\gx rz (nr-1)≠0):=by
    refine⟨JA (zV ?_) HX.out.2.2,?_⟩
    ·have h1:=H9.out.1.le
     have h2:=HK.out.2.2;omega
    ·have h1:=aw rz (by rw[H9.out.1.rn];omega)
     rwa [H9.out.1.rn] at h1
   have hB3:Below v6.heap.size v6 y3:=ae hB2 hd3;have hmu:=ve (K:=Xb s u i/32+1) (L:=(u+Md.gm+3)/32+1) (HT.out.below hB3) (HX.out.1.below (ae H9.out.1.bw hB3)) (by rw[rp HN.out.2,eE]) (by
    have h1:=HX.out.2.1;have h2:=h1.lead.2.1;rw[HX.out.1.zl];exact aX _ _ (fun t ht=>ak bv _ (by rw[HX.out.1.zl];exact Jr _) t ht) (.inr h2)) (by omega) (by omega) (by decide) (by decide) (fun t=>by
     rw[dL];have h1:=H9.out.1.rbd HX.out.2.1 (nr-1);rw[Nat.add_zero] at h1
     split
     ·exact mV h1 (by omega)
     ·simpa using bu _) (fun t=>mV (HX.out.2.1.bbd t) (by omega)) (by have h1:=HN.out.1;rw[pX] at h1;omega)
   go_wp2_with fail;go_fit hmu;rintro r y4 ⟨pm,nm,em,rfl,hm2,-,hmt,hd4⟩;clear hmu;have hnm:nm<=25:=by
    have h1:=hm2.zl;unfold ax at h1
    split at h1
    ·simp at h1;omega
    ·rw[cx,eE,HX.out.1.zl] at h1
     have:=HK.out.2.1;omega
   have HNM:Hid (2*(Xb s u i/32+1+((u+Md.gm+3)/32+1)+1)<=200):=by
    have h1:=HN.out.1;rw[pX] at h1
    show _<=_
    omega
   have hsu:=vg (hb2.below hd4) hm2 (by omega) (by omega) (by decide) (by have:=HNM.out;omega) (by decide)
   go_wp2_with fail;go_fit hsu;rintro r y5 ⟨pr2,nr2,er2,rfl,hr2,-,hrt,hd5⟩;clear hsu;have hB5:Below v6.heap.size v6 y5:=ae hB3 (ae hd4 hd5);obtain⟨k1,rho2,ka2,hnew⟩:=H9.out.1.step HX.out.2.1 HK.out.2.2 hn HN.out.1 hB5 (hq2.below (ae hd3 (ae hd4 hd5))) hr2 hqt hrt;have HNW:Hid (PX w y5 H al be n s u (i+1) 0 pq2 pr2 nq2 nr2 eq2 er2 _ _ rho2 ka2/\Below W3.heap.size W3 y5/\x-1=e0-((i+1:Nat):Int)/\(0<i+1->i+1<=n+1-m)):=⟨hnew,ae H9.out.2.1 hB5,by have:=H9.out.2.2;omega,fun _=>by
    have h1:=H9.out.1.le;have h2:=HK.out.2.2;omega⟩
   have hql2:=hnew.ql;have hi2:i+1<=12/\-30<=x-1:=by
    have h1:=H9.out.1.le;have h2:=H9.out.2.2;have h3:=HE.out;omega
   have v9:IntKind.i64.wrap (x-1)=x-1:=by rw[IntKind.wrap_i64];omega
   clear hq2 hm2 hr2 hqt hmt hrt hd3 hd4 hd5 hB2 hB3 hB5 hnew HT HN H9 hb2 hbt2 HNM;go_wp2;refine⟨⟨i+1,x-1,pq2,pr2,nq2,nr2,eq2,er2,_,_,rho2,ka2,rfl,rfl,rfl,by omega,hi2.1,hql2,hi2.2,by omega,HNW.out⟩,?_⟩
   simp[pT];omega
end Go.Proofs.YtdjjlghlcffflaaGreatDoor
