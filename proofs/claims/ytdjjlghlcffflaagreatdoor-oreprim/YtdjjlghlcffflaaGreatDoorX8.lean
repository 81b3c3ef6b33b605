/- Own. -/
import Derived.Test.YtdjjlghlcffflaaGreatDoorKn
import Derived.Shelf.Spec.TrailingZeros
set_option linter.unusedVariables false
set_option linter.unusedSimpArgs false
set_option maxHeartbeats 8000000
set_option maxRecDepth 100000
namespace Go.Proofs.YtdjjlghlcffflaaGreatDoor.Md
open Go.Proofs.YtdjjlghlcffflaaGreatDoor
open Go.Proofs.YtdjjlghlcffflaaGreatDoor.Cp (su mw my cU fB)
def cvf(q d:Nat->Int)(t:Nat):Int:=su (fun k=>q k*d (t-k)) (t+1)
theorem fM{f:Nat->Int}:∀n,(∀i,i<n->f i=0)->su f n=0
 |0,_=>rfl
 |n+1,h=>by rw[su,fM n fun i hi=>h i (by omega),h n (by omega)];rfl
theorem nC(f:Nat->Int)(k:Nat):∀n,su f (k+n)=su f k+su (fun i=>f (k+i)) n
 |0=>by rw[su,Nat.add_zero,Int.add_zero]
 |n+1=>by rw[<-Nat.add_assoc,su,nC f k n,su];omega
theorem pc(q r d:Nat->Int)(t:Nat):cvf (fun k=>q k+r k) d t=cvf q d t+cvf r d t:=by
 unfold cvf;rw[<-mw];exact cU _ fun i _=>Int.add_mul ..
theorem eY(c:Int)(q d:Nat->Int)(t:Nat):cvf (fun k=>c*q k) d t=c*cvf q d t:=by
 unfold cvf;rw[<-my];exact cU _ fun i _=>JG ..
theorem nW(k:Nat)(q d:Nat->Int)(t:Nat):cvf (fun i=>if i<k then 0 else q (i-k)) d t=if t<k then 0 else cvf q d (t-k):=by
 unfold cvf;split
 ·exact fM _ fun i hi=>by show(if i<k then (0:Int) else q (i-k))*_=0;rw[if_pos (by omega),Int.zero_mul]
 ·rename_i h
  rw[show t+1=k+(t-k+1) by omega,nC,fM k (fun i hi=>by show(if i<k then (0:Int) else q (i-k))*_=0;rw[if_pos hi,Int.zero_mul]),Int.zero_add]
  refine cU _ fun i hi=>?_
  show(if k+i<k then (0:Int) else q (k+i-k))*_=_
  rw[if_neg (by omega),show k+i-k=i by omega,show t-(k+i)=t-k-i by omega]
def Mp(p:Int)(d f:Nat->Int):Prop:=∃(q:Nat->Int) (N:Nat),(∀t,N<=t->q t=0)/\∀t,p∣f t-cvf q d t
theorem ov(p:Int)(d:Nat->Int):Idl p (Mp p d) where
 cg:=fun⟨q,N,h1,h2⟩ h=>⟨q,N,h1,fun t=>by
  have:=Int.dvd_add (h t) (h2 t);refine cast (congrArg _ ?_) this;omega⟩
 add:=fun⟨q,N,h1,h2⟩ ⟨r,M,h3,h4⟩=>⟨fun k=>q k+r k,max N M,fun t ht=>by show q t+r t=0;rw[h1 t (by omega),h3 t (by omega)];rfl,fun t=>by
  rw[pc];have:=Int.dvd_add (h2 t) (h4 t);refine cast (congrArg _ ?_) this;show _=_+_-_
  omega⟩
 mul:=fun c ⟨q,N,h1,h2⟩=>⟨fun k=>c*q k,N,fun t ht=>by show c*q t=0;rw[h1 t ht,JC],fun t=>by
  rw[eY];show p∣c*_-_
  rw[<-Int.mul_sub];exact Int.dvd_mul_of_dvd_right (h2 t)⟩
 sh:=fun k ⟨q,N,h1,h2⟩=>⟨fun i=>if i<k then 0 else q (i-k),N+k,fun t ht=>by show(if t<k then (0:Int) else q (t-k))=0;rw[if_neg (by omega),h1 _ (by omega)],fun t=>by
  rw[nW];by_cases h:t<k
  ·show p∣(if t<k then (0:Int) else _)-_
   rw[if_pos h,if_pos h,Int.sub_self];exact Int.dvd_zero p
  ·show p∣(if t<k then (0:Int) else _)-_
   rw[if_neg h,if_neg h];exact h2 _⟩
theorem zo(p:Int)(d:Nat->Int):Mp p d d:=⟨cst 1,1,fun t ht=>by unfold cst;rw[if_neg (by omega)],fun t=>by
 have e:cvf (cst 1) d t=d t:=by
  unfold cvf;rw[Nat.add_comm,nC,fM (f:=fun i=>cst 1 (1+i)*d (t-(1+i))) t fun i _=>by unfold cst;rw[if_neg (by omega),Int.zero_mul]]
  simp[su,cst]
 rw[e,Int.sub_self];exact Int.dvd_zero p⟩
theorem zj{p:Int}{q:Nat->Int}:∀N,(∀t,N<=t->p∣q t)->(∀t,p∣q t)\/∃e,¬p∣q e/\∀t,e<t->p∣q t
 |0,h=>.inl fun t=>h t (Jz _)
 |N+1,h=>by
  by_cases hd:p∣q N
  ·exact zj N fun t ht=>by
    rcases Ju N t with h1|h1
    ·exact h t h1
    ·obtain rfl:t=N:=by omega
     exact hd
  ·exact .inr ⟨N,hd,fun t ht=>h t ht⟩
theorem oV{p:Int}{f:Nat->Int}(e:Nat):∀n,e<n->(∀i,i<n->i≠e->p∣f i)->p∣su f n-f e
 |0,h,_=>absurd h (Nat.not_lt_zero _)
 |n+1,h,hf=>by
  rw[su];rcases Ju e n with h1|h1
  ·have:=Int.dvd_add (oV e n h1 fun i hi=>hf i (by omega)) (hf n (by omega) (by omega))
   refine cast (congrArg _ ?_) this;omega
  ·obtain rfl:e=n:=by omega
   rw[Int.add_sub_cancel];exact fB _ fun i hi=>hf i (by omega) (by omega)
variable {D:Nat}
theorem sy{p:Int}(hp:Gs.Pri p){d f:Nat->Int}(hd:¬p∣d D)(hz:∀t,D<t->p∣d t)(h:Mp p d f):
  (∀t,p∣f t)\/∃(q:Nat->Int) (e:Nat),¬p∣q e/\(∀t,e<t->p∣q t)/\(∀t,p∣f t-cvf q d t)/\¬p∣f (e+D)/\∀t,e+D<t->p∣f t:=by
 obtain⟨q,N,h1,h2⟩:=h;rcases zj (p:=p) (q:=q) N (fun t ht=>by rw[h1 t ht];exact Int.dvd_zero p) with hq|⟨e,he,hq⟩
 ·refine .inl fun t=>?_
  have:p∣cvf q d t:=fB _ fun i _=>Int.dvd_mul_of_dvd_left (hq i)
  exact(Int.dvd_add_left (b:=f t) (c := -cvf q d t) (Int.dvd_neg.2 this)).1 (by rw[<-Int.sub_eq_add_neg];exact h2 t)
 ·refine .inr ⟨q,e,he,hq,h2,fun hf=>?_,fun t ht=>?_⟩
  ·have h3:p∣cvf q d (e+D)-q e*d (e+D-e):=oV (f:=fun k=>q k*d (e+D-k)) e (e+D+1) (by omega) fun i hi hne=>by
    rcases Ju i e with h4|h4
    ·exact Int.dvd_mul_of_dvd_right (hz _ (by omega))
    ·exact Int.dvd_mul_of_dvd_left (hq _ (by omega))
   rw[Nat.add_sub_cancel_left] at h3
   obtain⟨x,hx⟩:=h2 (e+D);obtain⟨y,hy⟩:=h3;obtain⟨z,hzz⟩:=hf;have h5:p∣q e*d D:=⟨z-x-y,by rw[Int.mul_sub,Int.mul_sub];omega⟩
   rcases hp.2 _ _ h5 with h6|h6
   ·exact he h6
   ·exact hd h6
  ·have h3:p∣cvf q d t:=fB _ fun i hi=>by
    rcases Ju e i with h4|h4
    ·exact Int.dvd_mul_of_dvd_left (hq _ h4)
    ·exact Int.dvd_mul_of_dvd_right (hz _ (by omega))
   have:=Int.dvd_add (h2 t) h3;rwa [Int.sub_add_cancel] at this
theorem lP(r:Int)(d:Nat->Int)(t:Nat):cvf (cst r) d t=r*d t:=by
 unfold cvf;rw[Nat.add_comm,nC,fM (f:=fun i=>cst r (1+i)*d (t-(1+i))) t fun i _=>by unfold cst;rw[if_neg (by omega),Int.zero_mul]]
 simp[su,cst]
theorem yX{p:Int}{I:(Nat->Int)->Prop}(H:Idl p I)(G:Nat->Int):Idl 0 (fun f=>I (cvf f G)) where
 cg:=fun {f g} hf h=>H.cg hf fun t=>by
  have e:∀t,g t=f t:=fun t=>by have:=Int.zero_dvd.1 (h t);omega
  rw[show g=f from funext e,Int.sub_self]
  exact Int.dvd_zero p
 add:=fun {f g} hf hg=>H.cg (H.add hf hg) fun t=>by rw[pc,Int.sub_self];exact Int.dvd_zero p
 mul:=fun {f} c hf=>H.cg (H.mul c hf) fun t=>by rw[eY,Int.sub_self];exact Int.dvd_zero p
 sh:=fun {f} k hf=>H.cg (H.sh k hf) fun t=>by rw[nW,Int.sub_self];exact Int.dvd_zero p
variable {g:Nat}
theorem BD{p:Int}(hp:Gs.Pri p){G A B d:Nat->Int}(hG:¬p∣G g)(hGz:∀t,g<t->G t=0)(hA:Mp p G A)(hB:Mp p G B)
  (hd:∀I,Idl p I->((I A/\I B)<->I d)) (h1:¬p∣d D) (hz:∀t,D<t->p∣d t):g<=D:=by
 have h:=(hd _ (ov p G)).1 ⟨hA,hB⟩;rcases sy hp hG (fun t ht=>by rw[hGz t ht];exact Int.dvd_zero p) h with h2|⟨q,e,_,_,_,h3,h4⟩
 ·exact absurd (h2 D) h1
 ·rcases Ju D g with h5|h5
  ·exact absurd (hz (e+g) (by omega)) h3
  ·exact h5
variable {n m:Nat}
theorem Aw{p:Int}(hp:Gs.Pri p){G A B d a b:Nat->Int}{R:Int}(hG:¬p∣G g)(hGz:∀t,g<t->G t=0)
  (ha:∀t,n<=t->a t=0) (hb:∀t,m<=t->b t=0) (hA:∀t,A t=cvf a G t) (hB:∀t,B t=cvf b G t) (hR:¬p∣R) (hbz:∀I,Idl 0 I->I a->I b->I (cst R))
  (hd:∀I,Idl p I->((I A/\I B)<->I d)) (h1:p∣d D-1) (hz:∀t,D<t->p∣d t):D=g/\∀t,p∣G t-G g*d t:=by
 have hp1:¬p∣d D:=fun h=>by
  have h2:p∣1:=by
   have:=Int.dvd_sub h h1;rwa [show d D-(d D-1)=1 by omega] at this
  have h3:=Int.natAbs_dvd_natAbs.2 h2;have h4:=Nat.le_of_dvd (by decide) h3
  have h5:=hp.1;omega
 have hge:=BD hp hG hGz ⟨a,n,ha,fun t=>by rw[hA,Int.sub_self];exact Int.dvd_zero p⟩ ⟨b,m,hb,fun t=>by rw[hB,Int.sub_self];exact Int.dvd_zero p⟩ hd hp1 hz
 obtain⟨iA,iB⟩:=(hd _ (ov p d)).2 (zo p d);have hI:=hbz _ (yX (ov p d) G) (by rwa [show cvf a G=A from funext fun t=>(hA t).symm]) (by rwa [show cvf b G=B from funext fun t=>(hB t).symm])
 rw[show cvf (cst R) G=(fun t=>R*G t) from funext fun t=>lP R G t] at hI
 have hRG:¬p∣R*G g:=fun h=>(hp.2 _ _ h).elim hR hG
 rcases sy hp hp1 hz hI with h2|⟨q,e,he,hq,h3,h4,h5⟩
 ·exact absurd (h2 g) hRG
 ·have h6:e+D<=g:=by
   rcases Ju g (e+D) with h|h
   ·exfalso
    refine h4 ?_;rw[hGz _ h,JC];exact Int.dvd_zero p
   ·exact h
  obtain rfl:e=0:=by omega
  obtain rfl:D=g:=by omega
  refine⟨rfl,fun t=>?_⟩
  have hc:∀t,p∣cvf q d t-q 0*d t:=fun t=>by
   have:=oV (p:=p) (f:=fun k=>q k*d (t-k)) 0 (t+1) (by omega) fun i hi hne=>Int.dvd_mul_of_dvd_left (hq i (by omega))
   exact this
  obtain⟨x,hx⟩:=h3 t;obtain⟨y,hy⟩:=hc t;obtain⟨x2,hx2⟩:=h3 D;obtain⟨y2,hy2⟩:=hc D;obtain⟨z,hzz⟩:=h1;have e1:R*G t=q 0*d t+p*(x+y):=by rw[JF];omega
  have e2:R*G D=q 0*d D+p*(x2+y2):=by rw[JF];omega
  have e3:d D=1+p*z:=by omega
  have h7:p∣R*(G t-G D*d t):=by
   rw[Int.mul_sub,<-JG,e1,e2,e3];refine⟨x+y-(q 0*z+(x2+y2))*d t,?_⟩;simp only[JF,Int.add_mul,Int.mul_sub,Int.mul_one,JG,JH (q 0) p];omega
  rcases hp.2 _ _ h7 with h8|h8
  ·exact absurd h8 hR
  ·exact h8
theorem FJ(f:Nat->Int):∀n,su f n=Sk.sm n f
 |0=>rfl
 |n+1=>by rw[su,Sk.sm,FJ f n]
theorem b9(q d:Nat->Int)(t:Nat):cvf q d t=Sk.cv q d t:=FJ _ _
def lst(N:Nat)(f:Nat->Int):List Int:=(List.range N).map f
variable {N:Nat}
theorem om{f:Nat->Int}(h:∀t,N<=t->f t=0)(t:Nat):gx (lst N f) t=f t:=by
 unfold lst;rcases Ju t N with h1|h1
 ·simp[gx,h1]
 ·rw[ak _ N (by simp) t h1,h t h1]
def QM(d f:Nat->Int):Prop:=∃(c:Int) (q:Nat->Int) (N:Nat),c≠0/\(∀t,N<=t->q t=0)/\∀t,c*f t=cvf q d t
theorem CE(d:Nat->Int):Idl 0 (QM d) where
 cg:=fun {f g} ⟨c,q,N,h0,h1,h2⟩ h=>⟨c,q,N,h0,h1,fun t=>by
  have e:g t=f t:=by have:=Int.zero_dvd.1 (h t);omega
  rw[e];exact h2 t⟩
 add:=fun {f g} ⟨c,q,N,h0,h1,h2⟩ ⟨e,r,M,k0,k1,k2⟩=>⟨c*e,fun t=>e*q t+c*r t,max N M,Int.mul_ne_zero h0 k0,fun t ht=>by
  show e*q t+c*r t=0
  rw[h1 t (by omega),k1 t (by omega),JC,JC];rfl,fun t=>by
  rw[pc (fun t=>e*q t) (fun t=>c*r t),eY,eY,<-h2,<-k2]
  show c*e*(f t+g t)=_
  rw[JF,JG,JG,JH e c]⟩
 mul:=fun {f} k ⟨c,q,N,h0,h1,h2⟩=>⟨c,fun t=>k*q t,N,h0,fun t ht=>by show k*q t=0;rw[h1 t ht,JC],fun t=>by
  rw[eY,<-h2,JH]⟩
 sh:=fun {f} k ⟨c,q,N,h0,h1,h2⟩=>⟨c,fun i=>if i<k then 0 else q (i-k),N+k,h0,fun t ht=>by show(if t<k then (0:Int) else q (t-k))=0;rw[if_neg (by omega),h1 _ (by omega)],fun t=>by
  rw[nW];show c*(if t<k then (0:Int) else f (t-k))=_
  by_cases h:t<k
  ·rw[if_pos h,if_pos h,JC]
  ·rw[if_neg h,if_neg h,h2]⟩
theorem CF(d:Nat->Int):Sat (QM d):=fun k f hk ⟨c,q,N,h0,h1,h2⟩=>⟨c*k,q,N,Int.mul_ne_zero h0 hk,h1,fun t=>by rw[JG];exact h2 t⟩
theorem GC(d:Nat->Int):QM d d:=⟨1,cst 1,1,by decide,fun t ht=>by unfold cst;rw[if_neg (by omega)],fun t=>by rw[lP]⟩
theorem GB:∀(n:Nat) (d:List Int) (t0:Nat),(gx d t0).natAbs=n->gx d t0≠0->∃(k:Int) (e:List Int),k≠0/\Gs.Prm e/\∀t,gx d t=k*gx e t:=fun n=>by
 induction n using Nat.strongRecOn with
 |_ n ih=>
  intro d t0 hn h0;by_cases hP:Gs.Prm d
  ·exact⟨1,d,by decide,hP,fun t=>(Int.one_mul _).symm⟩
  ·obtain⟨p,hp⟩:=Classical.not_forall.1 hP
   obtain⟨h1,h2⟩:=Classical.not_imp.1 hp;have e:∀t,gx d t=p*gx (d.map (· / p)) t:=fun t=>by
    rw[Gs.eM _ (by simp)]
    exact(Int.mul_ediv_cancel' (h1 t)).symm
   have e0:=e t0;have hp0:p≠0:=fun h=>h0 (by rw[e0,h,Int.zero_mul])
   have h3:gx (d.map (· / p)) t0≠0:=fun h=>h0 (by rw[e0,h,JC])
   have h4:(gx (d.map (· / p)) t0).natAbs<n:=by
    rw[<-hn,e0,Int.natAbs_mul];have h5:2<=p.natAbs:=by omega
    have h6:0<(gx (d.map (· / p)) t0).natAbs:=by omega
    have:=Nat.mul_le_mul_right (gx (d.map (· / p)) t0).natAbs h5;omega
   obtain⟨k,e1,hk,hP1,h5⟩:=ih _ h4 _ t0 rfl h3;exact⟨p*k,e1,Int.mul_ne_zero hp0 hk,hP1,fun t=>by rw[e t,h5 t,JG]⟩
theorem kS{d:Nat->Int}{e F:List Int}{k:Int}(hP:Gs.Prm e)(hk:∀t,d t=k*gx e t)(h:QM d (gx F)):Dvd F e:=by
 obtain⟨c,q,N,h0,h1,h2⟩:=h;refine Gs.BK hP _ c F ((lst N q).map (k * ·)) rfl h0 fun t=>?_
 rw[h2,b9,Sk.ao,Sk.a_ (b:=fun i=>k*q i+0*q i) (a:=gx ((lst N q).map (k * ·))) (fun i=>by rw[Gs.eM _ (JC k),om h1];omega) (fun _=>rfl),Sk.iM,
  Sk.a_ (a:=q) (g:=d) (h:=fun i=>k*gx e i+0*gx e i) (fun _=>rfl) (fun i=>by rw[hk i];omega),Sk.tD]
theorem Il:∀(n:Nat) (A B:List Int),ad A+ad B=n->0<ad A->0<ad B->
  ∃G a b:List Int,(∀t,gx A t=gx (ax a G) t)/\(∀t,gx B t=gx (ax b G) t)/\Cop (gx a) (gx b):=fun n=>by
 induction n using Nat.strongRecOn with
 |_ n ih=>
  intro A B hn hA hB;by_cases hc:Cop (gx A) (gx B)
  ·have one:∀(F:List Int) (t:Nat),gx F t=gx (ax F [1]) t:=fun F t=>by
    rw[jC,Sk.ao,Sk.a_ (a:=gx [1]) (b:=fun i=>if i=0 then 1 else 0) (fun i=>by
     rcases Jw i with h|h
     ·subst h;rfl
     ·rw[if_neg (by omega),ak [1] 1 (by simp) i h]) (fun _=>rfl),Sk.wb,Int.one_mul]
   exact⟨[1],A,B,one A,one B,hc⟩
  ·have hex:∃(d:Nat->Int) (N:Nat),(∀t,N<=t->d t=0)/\(∀I,Idl 0 I->Sat I->I d->I (gx A)/\I (gx B))/\∃t0,0<t0/\d t0≠0:=
    Classical.byContradiction fun hno=>hc fun d N hN hI t ht=>Classical.byContradiction fun hne=>hno ⟨d,N,hN,hI,t,ht,hne⟩
   obtain⟨d,N,hN,hI,t0,ht0,hd0⟩:=hex;obtain⟨k,e,hk,hP,he⟩:=GB _ (lst N d) t0 rfl (by rw[om hN];exact hd0)
   have he':∀t,d t=k*gx e t:=fun t=>by rw[<-he t,om hN]
   obtain⟨qA,qB⟩:=hI _ (CE d) (CF d) (GC d);have hte:t0<ad e:=by
    rcases Ju t0 (ad e) with h|h
    ·exact h
    ·exact absurd (by rw[he',az e t0 h,JC]) hd0
   obtain⟨m,hm⟩:∃m,ad e=m+1:=⟨ad e-1,by omega⟩
   have htop:gx (tr e) m≠0:=by
    have:=aw e (by omega)
    rw[hm,JD] at this
    rwa [aN]
   have key:∀F:List Int,0<ad F->QM d (gx F)->∃q:List Int,0<ad q/\ad q<ad F/\∀t,gx F t=gx (ax q e) t:=fun F hF hQ=>by
    obtain⟨q,hq⟩:=kS hP he' hQ;have hq2:∀t,gx F t=gx (ax q (tr e)) t:=fun t=>by
     rw[hq t,Sk.ao,Sk.ao];exact Sk.a_ (fun _=>rfl) (fun i=>(aN e i).symm) t
    rcases dV (by rw[af,hm]) htop hq2 with h|⟨a,h1,h2,_⟩
    ·omega
    ·exact⟨q,by omega,by omega,hq⟩
   obtain⟨qa,a1,a2,a3⟩:=key A hA qA;obtain⟨qb,b1,b2,b3⟩:=key B hB qB;obtain⟨G,a,b,h1,h2,h3⟩:=ih (ad qa+ad qb) (by omega) qa qb rfl a1 b1
   have up:∀(F q x:List Int),(∀t,gx F t=gx (ax q e) t)->(∀t,gx q t=gx (ax x G) t)->∀t,gx F t=gx (ax x (ax G e)) t:=fun F q x hF hq t=>by
    rw[hF t,Sk.ao,Sk.ao,Sk.a_ (b:=Sk.cv (gx x) (gx G)) (fun i=>by rw[hq i,Sk.ao]) (fun _=>rfl),<-Sk.kg]
    exact Sk.a_ (fun _=>rfl) (fun i=>(Sk.ao G e i).symm) t
   exact⟨ax G e,a,b,up A qa a a3 h1,up B qb b b3 h2,h3⟩
theorem tC{A B G a b d:Nat->Int}{R:Int}(hA:∀t,A t=cvf a G t)(hB:∀t,B t=cvf b G t)(hR:R≠0)(hbz:∀I,Idl 0 I->I a->I b->I (cst R))(dA:QM d A)(dB:QM d B):QM d G:=by
 have hI:=hbz _ (yX (CE d) G) (by show QM d (cvf a G);rwa [show cvf a G=A from funext fun t=>(hA t).symm]) (by show QM d (cvf b G);rwa [show cvf b G=B from funext fun t=>(hB t).symm])
 refine CF d R G hR ?_;rwa [show cvf (cst R) G=(fun t=>R*G t) from funext fun t=>lP R G t] at hI
variable {G:List Int}
theorem IK{e:List Int}(hP:Gs.Prm e)(he:0<ad e)(hG:0<ad G)(h:QM (gx e) (gx G)):∃q:List Int,0<ad q/\ad G+1=ad e+ad q/\∀t,gx G t=gx (ax q e) t:=by
 obtain⟨q,hq⟩:=kS (k:=1) hP (fun t=>(Int.one_mul _).symm) h
 obtain⟨m,hm⟩:∃m,ad e=m+1:=⟨ad e-1,by omega⟩
 have htop:gx (tr e) m≠0:=by
  have:=aw e (by omega)
  rw[hm,JD] at this
  rwa [aN]
 have hq2:∀t,gx G t=gx (ax q (tr e)) t:=fun t=>by
  rw[hq t,Sk.ao,Sk.ao];exact Sk.a_ (fun _=>rfl) (fun i=>(aN e i).symm) t
 rcases dV (by rw[af,hm]) htop hq2 with h1|⟨a,h1,h2,_⟩
 ·omega
 ·exact⟨q,by omega,by omega,hq⟩
theorem Cx{e:List Int}(hG:Gs.Prm G)(hP:Gs.Prm e)(h0:0<ad G)(h:QM (gx e) (gx G))(hd:ad G<=ad e):∃s:Int,s.natAbs=1/\∀t,gx G t=s*gx e t:=by
 obtain⟨q,h1,h2,h3⟩:=IK hP (by omega) h0 h
 have hq:∀i,gx q i=if i=0 then gx q 0 else 0:=fun i=>by
  rcases Jw i with h4|h4
  ·subst h4;rfl
  ·rw[if_neg (by omega)];exact az q i (by omega)
 have h5:∀t,gx G t=gx q 0*gx e t:=fun t=>by
  rw[h3 t,Sk.ao,Sk.a_ (b:=fun i=>if i=0 then gx q 0 else 0) hq (fun _=>rfl),Sk.wb]
 exact⟨gx q 0,hG _ fun t=>⟨gx e t,h5 t⟩,h5⟩
theorem cM{e:List Int}(h:Gs.Prm e):0<ad e:=by
 rcases Jw (ad e) with h0|h0
 ·have:=h 2 fun t=>by rw[az e t (by omega)];exact Int.dvd_zero 2
  exact absurd this (by decide)
 ·exact h0
variable {A a:List Int}
theorem xp(hA:Gs.Prm A)(h:∀t,gx A t=gx (ax a G) t):Gs.Prm a/\Gs.Prm G:=by
 refine⟨fun p hp=>hA p fun t=>?_,fun p hp=>hA p fun t=>?_⟩
 ·rw[h t,Sk.ao,<-b9]
  exact Cp.fB _ fun i _=>Int.dvd_mul_of_dvd_left (hp i)
 ·rw[h t,Sk.ao,<-b9]
  exact Cp.fB _ fun i _=>Int.dvd_mul_of_dvd_right (hp _)
end Go.Proofs.YtdjjlghlcffflaaGreatDoor.Md
namespace Go.Proofs.YtdjjlghlcffflaaGreatDoor
open Go.RowKit
open Go.Shelf
noncomputable def pO:Go.Shelf.Ren:=⟨fun|29=>207|n=>n,fun|0=>0|3=>3|4=>4|5=>5|22=>128|25=>158|54=>207|n=>n,fun|1=>(Tryz.prog.globals.findIdx? (·.name == "math/bits.deBruijn64tab")).getD 0|n=>n⟩
theorem Ir:Lays7.n29 Tryz.prog pO:=
 {mixed:=by kernel_rfl
  f29:=by kernel_rfl
  t0:=by kernel_rfl
  a0:=fun _=>by kernel_rfl
  z0:=fun _=>by kernel_rfl
  v0:=fun _=>by kernel_rfl
  i0:=by kernel_rfl
  t3:=by kernel_rfl
  a3:=fun _=>by kernel_rfl
  z3:=fun _=>by kernel_rfl
  v3:=fun _=>by kernel_rfl
  i3:=by kernel_rfl
  t4:=by kernel_rfl
  a4:=fun _=>by kernel_rfl
  z4:=fun _=>by kernel_rfl
  v4:=fun _=>by kernel_rfl
  i4:=by kernel_rfl
  t5:=by kernel_rfl
  a5:=fun _=>by kernel_rfl
  z5:=fun _=>by kernel_rfl
  v5:=fun _=>by kernel_rfl
  i5:=by kernel_rfl
  t22:=by kernel_rfl
  a22:=fun _=>by kernel_rfl
  z22:=fun _=>by kernel_rfl
  v22:=fun _=>by kernel_rfl
  i22:=by kernel_rfl
  t25:=by kernel_rfl
  a25:=fun _=>by kernel_rfl
  z25:=fun _=>by kernel_rfl
  v25:=fun _=>by kernel_rfl
  i25:=by kernel_rfl
  t54:=by kernel_rfl
  a54:=fun _=>by kernel_rfl
  z54:=fun _=>by kernel_rfl
  g1:=by kernel_rfl}
def TzT(w:World):Prop:=TabAt (pO.g 1) Lib.deBruijn64tab w
theorem I4(x:Nat)(w:World)(hx:x<18446744073709551616)(hT:TzT w):
  Calls Tryz.prog 207 #[.int .u64 x] w fun e w'=>e=.returned (.int .i64 (Lib.ctz 64 x))/\w'=w:=
 Any7.bits_TrailingZeros64 Ir x hx w fun _=>hT
theorem AH(m b:Nat)(w:World)(hm:9<=m)(hm2:m<=2147483647)(hb:b<m)(hT:TzT w):
  Calls Tryz.prog 199 #[.int .u64 m,.int .u64 b] w fun e w'=>e=.returned (.bool (Cp.ps m b))/\w=w':=by
 have e1:(m:Int)-1=((m-1:Nat):Int):=by omega
 have v1:IntKind.u64.wrap ((m-1:Nat):Int)=((m-1:Nat):Int):=by rw[IntKind.wrap_u64];omega
 have hs:=(Lib.lowest_bit 64 (m-1) (by omega) (by omega)).2
 generalize hS:Lib.ctz 64 (m-1)=s at hs
 have HS:=(show Hid _ from hS)
 generalize hD:(m-1)/2^s=d;have HD:=(show Hid _ from hD)
 have hd:d<4294967296:=by have:=Nat.div_le_self (m-1) (2^s);omega
 have HP:Hid (Cp.ps m b=(b^d%m==1||Cp.sq m s (b^d%m))):=by
  show _=_
  unfold Cp.ps;rw[hS,hD]
 have eD:((m-1:Nat):Int)/2^s=(d:Int):=by
  rw[<-HD.out,Int.natCast_ediv,Int.natCast_pow];rfl
 clear hS hD;have eA:(b:Int)^d%(m:Int)=((b^d%m:Nat):Int):=by rw[Int.natCast_emod,Int.natCast_pow]
 have hA:b^d%m<m:=Nat.mod_lt _ (by omega)
 generalize hA0:b^d%m=A at *
 clear hA0;go_enter Tryz.func199,Tryz.ntmps199;go_wp2_with fail;refine(I4 (m-1) _ (by omega) hT).mono ?_
 rintro e w1 ⟨rfl,rfl⟩;rw[HS.out];go_wp2_with fail;refine(uX m b d _ (by omega) (by omega) (by omega) (by omega) hd).mono ?_
 rintro e w1 ⟨rfl,rfl⟩;rw[eA];by_cases h1:A=1
 ·have c1:(A:Int)=1:=by omega
  have HE:Hid (Cp.ps m b=true):=by
   show _=_
   rw[HP.out,h1];rfl
  go_wp2;go_ret;exact⟨by rw[HE.out];rfl,rfl⟩
 ·have c1:¬(A:Int)=1:=by omega
  have c2:((A:Int)==1)=false:=by rw[beq_eq_false_iff_ne];exact c1
  have HE:Hid (Cp.ps m b=Cp.sq m s A):=by
   show _=_
   rw[HP.out,show(A==1)=false from by rw[beq_eq_false_iff_ne];exact h1]
   rfl
  clear HP;go_wp2;go_loop [7,21] (fun av iv=>∃a i:Nat,av=.int .u64 a/\iv=.int .i64 i/\i<=s/\a<m/\Hid (Cp.sq m s A=Cp.sq m (s-i) a)) (fun _ iv=>s-(intOf iv).toNat)
  case atStart=>exact⟨A,0,rfl,rfl,by omega,hA,rfl⟩
  case round=>
   obtain⟨a,i,rfl,rfl,hi,ha,H⟩:=hrel;rcases Ju i s with h2|h2
   ·have d1:(i:Int)<(s:Int):=by omega
    obtain⟨k,hk⟩:∃k,s-i=k+1:=⟨s-i-1,by omega⟩
    have HQ:Hid (Cp.sq m s A=(a==m-1||Cp.sq m k (a*a%m))):=by
     show _=_
     rw[H.out,hk];rfl
    have hk1:s-(i+1)=k:=by omega
    clear H;by_cases h3:a=m-1
    ·have d2:(a:Int)=((m-1:Nat):Int):=by rw[h3]
     have HF:Hid (Cp.ps m b=true):=by
      show _=_
      rw[HE.out,HQ.out,h3,show(m-1==m-1)=true from beq_self_eq_true _]
      rfl
     go_wp2;go_ret;exact⟨by rw[HF.out];rfl,rfl⟩
    ·have d2:¬(a:Int)=((m-1:Nat):Int):=by omega
     have d3:((a:Int)==((m-1:Nat):Int))=false:=by rw[beq_eq_false_iff_ne];exact d2
     have eS:Hid ((a:Int)*(a:Int)%(m:Int)=((a*a%m:Nat):Int)):=by show _=_;rw[Int.natCast_emod,Int.natCast_mul]
     have hS1:a*a%m<m:=Nat.mod_lt _ (by omega)
     have v2:IntKind.i64.wrap ((i:Int)+1)=((i+1:Nat):Int):=by rw[IntKind.wrap_i64];omega
     have HF:Hid (Cp.sq m s A=Cp.sq m k (a*a%m)):=by
      show _=_
      rw[HQ.out,show(a==m-1)=false from by rw[beq_eq_false_iff_ne];exact h3]
      rfl
     clear HQ;generalize a*a%m=q at *
     go_wp2_with fail;refine(gZ m a a _ (by omega) (by omega) (by omega) (by omega) (by omega) (by omega)).mono ?_
     rintro e w1 ⟨rfl,rfl⟩;rw[eS.out];go_wp2;go_round
     case rel=>exact⟨q,i+1,rfl,by go_num,by omega,hS1,by show _=_;rw[HF.out,hk1]⟩
     case measure=>simp[intOf];omega
   ·have d1:¬(i:Int)<(s:Int):=by omega
    have HF:Hid (Cp.ps m b=false):=by
     show _=_
     rw[HE.out,H.out,show s-i=0 by omega]
     rfl
    clear H;go_wp2;go_ret;exact⟨by rw[HF.out];rfl,rfl⟩
theorem fy(m b:Nat)(z:Int)(hz:z=(b:Int))(w:World)(hm:9<=m)(hm2:m<=2147483647)(hb:b<m)(hT:TzT w):
  Calls Tryz.prog 199 #[.int .u64 m,.int .u64 z] w fun e w'=>e=.returned (.bool (Cp.ps m b))/\w=w':=by
 rw[hz];exact AH m b w hm hm2 hb hT
def sN(m:Nat):Nat->Bool
 |0=>Cp.ps m 2&&(Cp.ps m 3&&(Cp.ps m 5&&Cp.ps m 7))
 |1=>Cp.ps m 3&&(Cp.ps m 5&&Cp.ps m 7)
 |2=>Cp.ps m 5&&Cp.ps m 7
 |3=>Cp.ps m 7
 |_=>true
theorem Fh(w:World):Sem.run Tryz.prog (Instr.index 197 (.agg #[.int .u64 2,.int .u64 3,.int .u64 5,.int .u64 7]) (.int .i64 0)) w=.ok (.int .u64 2) w:=by kernel_rfl
theorem Fi(w:World):Sem.run Tryz.prog (Instr.index 197 (.agg #[.int .u64 2,.int .u64 3,.int .u64 5,.int .u64 7]) (.int .i64 1)) w=.ok (.int .u64 3) w:=by kernel_rfl
theorem Fj(w:World):Sem.run Tryz.prog (Instr.index 197 (.agg #[.int .u64 2,.int .u64 3,.int .u64 5,.int .u64 7]) (.int .i64 2)) w=.ok (.int .u64 5) w:=by kernel_rfl
theorem Fl(w:World):Sem.run Tryz.prog (Instr.index 197 (.agg #[.int .u64 2,.int .u64 3,.int .u64 5,.int .u64 7]) (.int .i64 3)) w=.ok (.int .u64 7) w:=by kernel_rfl
theorem qo(m:Nat)(w:World)(hm:9<=m)(hm2:m<=2147483647)(hT:TzT w):
  Calls Tryz.prog 166 #[.int .u64 m] w fun e w'=>e=.returned (.bool (Cp.ip m))/\w=w':=by
 go_enter Tryz.func166,Tryz.ntmps166;go_wp2;go_loop [4,6] (fun _ iv=>∃i:Nat,iv=.int .i64 i/\i<=4/\Hid (Cp.ip m=sN m i)) (fun _ iv=>4-(intOf iv).toNat)
 case atStart=>exact⟨0,rfl,by omega,rfl⟩
 case round=>
  obtain⟨i,rfl,hi,H⟩:=hrel;obtain rfl|rfl|rfl|rfl|rfl:i=0\/i=1\/i=2\/i=3\/i=4:=by omega
  ·cases hc:Cp.ps m 2 with
   |true=>
    have HC:=(show Hid _ from hc)
    have HN:Hid (Cp.ip m=sN m 1):=by show _=_;rw[H.out];show(_&&_)=_;rw[hc,Bool.true_and];rfl
    clear H hc;go_wp2_with (simp only[Fh]);refine(fy m 2 2 rfl _ hm hm2 (by omega) hT).mono ?_
    rintro e w1 ⟨rfl,rfl⟩;rw[HC.out];go_wp2;go_round
    case rel=>exact⟨1,by go_num,by omega,HN⟩
    case measure=>simp[intOf]
   |false=>
    have HC:=(show Hid _ from hc)
    have HN:Hid (Cp.ip m=false):=by show _=_;rw[H.out];show(_&&_)=_;rw[hc,Bool.false_and]
    clear H hc;go_wp2_with (simp only[Fh]);refine(fy m 2 2 rfl _ hm hm2 (by omega) hT).mono ?_
    rintro e w1 ⟨rfl,rfl⟩;rw[HC.out];go_wp2;go_ret;exact⟨by rw[HN.out];rfl,rfl⟩
  ·cases hc:Cp.ps m 3 with
   |true=>
    have HC:=(show Hid _ from hc)
    have HN:Hid (Cp.ip m=sN m 2):=by show _=_;rw[H.out];show(_&&_)=_;rw[hc,Bool.true_and];rfl
    clear H hc;go_wp2_with (simp only[Fi]);refine(fy m 3 3 rfl _ hm hm2 (by omega) hT).mono ?_
    rintro e w1 ⟨rfl,rfl⟩;rw[HC.out];go_wp2;go_round
    case rel=>exact⟨2,by go_num,by omega,HN⟩
    case measure=>simp[intOf]
   |false=>
    have HC:=(show Hid _ from hc)
    have HN:Hid (Cp.ip m=false):=by show _=_;rw[H.out];show(_&&_)=_;rw[hc,Bool.false_and]
    clear H hc;go_wp2_with (simp only[Fi]);refine(fy m 3 3 rfl _ hm hm2 (by omega) hT).mono ?_
    rintro e w1 ⟨rfl,rfl⟩;rw[HC.out];go_wp2;go_ret;exact⟨by rw[HN.out];rfl,rfl⟩
  ·cases hc:Cp.ps m 5 with
   |true=>
    have HC:=(show Hid _ from hc)
    have HN:Hid (Cp.ip m=sN m 3):=by show _=_;rw[H.out];show(_&&_)=_;rw[hc,Bool.true_and];rfl
    clear H hc;go_wp2_with (simp only[Fj]);refine(fy m 5 5 rfl _ hm hm2 (by omega) hT).mono ?_
    rintro e w1 ⟨rfl,rfl⟩;rw[HC.out];go_wp2;go_round
    case rel=>exact⟨3,by go_num,by omega,HN⟩
    case measure=>simp[intOf]
   |false=>
    have HC:=(show Hid _ from hc)
    have HN:Hid (Cp.ip m=false):=by show _=_;rw[H.out];show(_&&_)=_;rw[hc,Bool.false_and]
    clear H hc;go_wp2_with (simp only[Fj]);refine(fy m 5 5 rfl _ hm hm2 (by omega) hT).mono ?_
    rintro e w1 ⟨rfl,rfl⟩;rw[HC.out];go_wp2;go_ret;exact⟨by rw[HN.out];rfl,rfl⟩
  ·cases hc:Cp.ps m 7 with
   |true=>
    have HC:=(show Hid _ from hc)
    have HN:Hid (Cp.ip m=sN m 4):=by show _=_;rw[H.out];exact hc
    clear H hc;go_wp2_with (simp only[Fl]);refine(fy m 7 7 rfl _ hm hm2 (by omega) hT).mono ?_
    rintro e w1 ⟨rfl,rfl⟩;rw[HC.out];go_wp2;go_round
    case rel=>exact⟨4,by go_num,by omega,HN⟩
    case measure=>simp[intOf]
   |false=>
    have HC:=(show Hid _ from hc)
    have HN:Hid (Cp.ip m=false):=by show _=_;rw[H.out];exact hc
    clear H hc;go_wp2_with (simp only[Fl]);refine(fy m 7 7 rfl _ hm hm2 (by omega) hT).mono ?_
    rintro e w1 ⟨rfl,rfl⟩;rw[HC.out];go_wp2;go_ret;exact⟨by rw[HN.out];rfl,rfl⟩
  ·have HN:Hid (Cp.ip m=true):=by show _=_;rw[H.out];rfl
   clear H;go_wp2;go_ret;exact⟨by rw[HN.out];rfl,rfl⟩
theorem Bp(m q:Nat)(w:World)(hq:9<=q)(hm2:m<=2147483647)(hN:Cp.Nx m q)(hT:TzT w):
  Calls Tryz.prog 124 #[.int .u64 m] w fun e w'=>e=.returned (.int .u64 q)/\w=w':=by
 obtain⟨n1,n2,n3,n4⟩:=hN;have e1:(m:Int)-2=((m-2:Nat):Int):=by omega
 have v1:IntKind.u64.wrap ((m-2:Nat):Int)=((m-2:Nat):Int):=by rw[IntKind.wrap_u64];omega
 have H3:=(show Hid _ from n3)
 have H4:=(show Hid _ from n4)
 clear n3 n4;go_enter Tryz.func124,Tryz.ntmps124;go_wp2;go_loop [3] (fun nv=>∃n:Nat,nv=.int .u64 n/\q<=n/\n+2<=m/\(m-n)%2=0) (fun nv=>(intOf nv).toNat)
 case atStart=>exact⟨m-2,rfl,by omega,by omega,by omega⟩
 case round=>
  obtain⟨n,rfl,h1,h2,h3⟩:=hrel;by_cases h4:n=q
  ·subst h4
   go_wp2_with fail;refine(qo n _ (by omega) (by omega) hT).mono ?_
   rintro e w1 ⟨rfl,rfl⟩;rw[H3.out];go_wp2;go_ret;exact⟨rfl,rfl⟩
  ·have HN:Hid (Cp.ip n=false):=H4.out n (by omega) (by omega) h3
   have e2:(n:Int)-2=((n-2:Nat):Int):=by omega
   have v2:IntKind.u64.wrap ((n-2:Nat):Int)=((n-2:Nat):Int):=by rw[IntKind.wrap_u64];omega
   go_wp2_with fail;refine(qo n _ (by omega) (by omega) hT).mono ?_
   rintro e w1 ⟨rfl,rfl⟩;rw[HN.out];go_wp2;go_round
   case rel=>exact⟨n-2,by go_num,by omega,by omega,by omega⟩
   case measure=>simp[intOf];omega
variable {k:Nat}
theorem fQ(w:World)(hk:k<319)(hT:TzT w):
  Calls Tryz.prog 124 #[.int .u64 (Cp.chain.getD k 0:Nat)] w fun e w'=>e=.returned (.int .u64 (Cp.chain.getD (k+1) 0:Nat))/\w=w':=by
 have hl:=Cp.nV;have mem:∀j,j<320->Cp.chain.getD j 0∈Cp.chain:=fun j hj=>by
  rw[List.getD_eq_getElem?_getD,List.getElem?_eq_getElem (by omega),Option.getD_some]
  exact List.getElem_mem _
 have h0:=Cp.kf _ (mem k (by omega))
 exact Bp _ _ w (Cp.vZ _ (mem (k+1) (by omega))) h0.2 (Cp.rV hk) hT
end Go.Proofs.YtdjjlghlcffflaaGreatDoor
