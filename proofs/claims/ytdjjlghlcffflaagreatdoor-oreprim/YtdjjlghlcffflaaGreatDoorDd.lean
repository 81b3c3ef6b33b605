/- Own. -/
import Derived.Test.YtdjjlghlcffflaaGreatDoorAf
import Derived.Lib.EndianBits
set_option linter.unusedVariables false
set_option linter.unusedSimpArgs false
set_option maxHeartbeats 8000000
set_option maxRecDepth 100000
namespace Go.Proofs.YtdjjlghlcffflaaGreatDoor
open Go.RowKit
theorem zB(zs ys:List Int)(t:Nat):∀m,ps zs ys (zs.length+m) t=ps zs ys zs.length t
 |0=>rfl
 |m+1=>by rw[<-Nat.add_assoc,jZ zs ys _ t (ak zs _ (Jr _) _ (by omega)),zB zs ys t m]
theorem jY(zs ys:List Int)(t:Nat):∀m,ps zs ys (t+1+m) t=ps zs ys (t+1) t
 |0=>rfl
 |m+1=>by
  rw[<-Nat.add_assoc,ps,jY zs ys t m,if_neg (by omega),Int.add_zero]
theorem CA(zs:List Int)(t:Nat):∀i,ps zs [] i t=0
 |0=>rfl
 |i+1=>by rw[ps,CA zs t i];simp[gx]
theorem cI(zs ys:List Int)(t:Nat):gx (ax zs ys) t=ps zs ys (t+1) t:=by
 have h0:ps zs ys (t+1) t=ps zs ys zs.length t:=by
  have h1:=jY zs ys t (zs.length);have h2:=zB zs ys t (t+1);rw[Nat.add_comm] at h2
  rw[<-h1,h2]
 rw[h0,ax];by_cases h:zs.length=0\/ys.length=0
 ·rw[if_pos h]
  rcases h with h|h
  ·rw[h];rfl
  ·rw[JB h,CA];rfl
 ·rw[if_neg h]
  rcases Ju t (zs.length+ys.length-1) with h1|h1
  ·rw[pE _ _ _ h1]
  ·rw[ak _ (zs.length+ys.length-1) (by rw[cx];exact Jr _) t h1,oJ zs ys t zs.length (by omega)]
def sq(f:Nat->Int):Nat->Int
 |0=>0
 |n+1=>sq f n+f n
theorem rL{f g:Nat->Int}:∀n,(∀i,i<n->f i=g i)->sq f n=sq g n
 |0,_=>rfl
 |n+1,h=>by rw[sq,sq,rL n fun i hi=>h i (by omega),h n (by omega)]
theorem xS(f:Nat->Int):∀n,sq f (n+1)=f 0+sq (fun i=>f (i+1)) n
 |0=>by simp[sq]
 |n+1=>by rw[sq,xS f n,sq];omega
theorem CY(f:Nat->Int):∀n,sq (fun i=>f (n-1-i)) n=sq f n
 |0=>rfl
 |n+1=>by
  rw[xS,sq];have h:=CY f n;have h1:sq (fun i=>f (n+1-1-(i+1))) n=sq (fun i=>f (n-1-i)) n:=rL n fun i hi=>by
   show f _=f _
   congr 1;omega
  rw[h1,h];show f n+_=_
  omega
theorem vI(zs ys:List Int)(t:Nat):∀n,n<=t+1->ps zs ys n t=sq (fun i=>gx zs i*gx ys (t-i)) n
 |0,_=>rfl
 |n+1,h=>by
  rw[ps,sq,vI zs ys t n (by omega)]
  first|rw[if_pos (by omega)]|rw[if_neg (by omega)]
theorem jC(a b:List Int):ax a b=ax b a:=by
 have hl:(ax a b).length=(ax b a).length:=by
  unfold ax;by_cases h:a.length=0\/b.length=0
  ·rw[if_pos h,if_pos h.symm]
  ·rw[if_neg h,if_neg (fun e=>h e.symm),cx,cx]
   omega
 refine dm _ _ hl fun t ht=>?_
 rw[cI,cI,vI _ _ _ _ (Jr _),vI _ _ _ _ (Jr _),<-CY];refine rL _ fun i hi=>?_
 show gx a (t+1-1-i)*gx b (t-(t+1-1-i))=_
 rw[show t+1-1-i=t-i by omega,show t-(t-i)=i by omega,JI]
variable {zs a b:List Int}
theorem IF{c:List Int}(h:∀j,gx a j=gx b j+gx c j)(t:Nat):∀i,ps zs a i t=ps zs b i t+ps zs c i t
 |0=>rfl
 |i+1=>by
  rw[ps,ps,ps,IF h t i];split
  ·rw[h,JF];omega
  ·omega
variable {ys:List Int}
theorem zC{zs' ys':List Int}(h:∀j,gx zs j=gx zs' j)(k:∀j,gx ys j=gx ys' j)(t:Nat):∀i,ps zs ys i t=ps zs' ys' i t
 |0=>rfl
 |i+1=>by rw[ps,ps,zC h k t i,h,k]
variable {z:Int}
theorem nG{b:Nat}(h:(z.natAbs:Int)<2^b):zb z<=b:=by
 rcases Ju b (zb z) with h1|h1
 ·exfalso
  have h2:=eQ (show b<=zb z-1 by omega)
  rcases(lC z).2.2 with h3|h3
  ·omega
  ·omega
 ·exact h1
variable {w:World} {K L:Nat} {x y:Int} {e f:Ent}
theorem Bo(h:EV w K x e)(k:EV w L y f):Calls Tryz.prog 82 #[.agg #[.bool e.s,.slice e.p e.n e.c],.agg #[.bool f.s,.slice f.p f.n f.c]] w fun r w'=>∃u:Ent,r=.returned (.agg #[.bool u.s,.slice u.p u.n u.c])/\NV w.heap.size w' (K+L+1) (x-y) u/\Below w.heap.size w w':=by
 obtain⟨xs,h1,rfl,h3⟩:=h;obtain⟨ys,k1,rfl,k3⟩:=k;refine(F0 e.s f.s e.p f.p e.n e.c f.n f.c xs ys w h1 k1).mono ?_;rintro r w' ⟨s',p',n',zs,g1,g2,g3,g4⟩;exact⟨⟨s',p',n',n'⟩,g1,⟨zs,g2,rfl,by show n'<=_;omega⟩,g4⟩
def dr(sg s t a b:Int):Int := -sg*(s*a-t*b)
def eF(sg s t a b:Int):Int:=sg*(s*a-t*b)
structure La(a b F p0 q0 sg p q s0 s1 s2 t0 t1 t2:Int):Prop where
 hs:sg=1\/sg = -1
 ep:p=sg*(s1*p0-t1*q0)
 eq:q = -sg*(s2*p0-t2*q0)
 idn:t2*p+t1*q=p0
 s1n:0<=s1
 s2n:0<=s2
 t1n:0<=t1
 t2n:1<=t2
 t12:t1<=t2
 st2:s2<=t2
 st12:s1+s2<=t1+t2
 qn:0<=q
 pq:q<=p
 pp:p<=p0
 g:Int.gcd (eF sg s1 t1 a b) (dr sg s2 t2 a b)=Int.gcd a b
 prev:(s0=0/\t0=0/\s1=1/\t1=0/\s2=0/\t2=1/\sg=1)\/
  (0<=s0/\0<=t0/\t0<=t1/\t1<1073741824/\s0<1073741824/\s1<=t1/\1<=t1/\0<=eF sg s1 t1 a b/\eF sg s1 t1 a b<dr sg s0 t0 a b/\eF sg s1 t1 a b<=b/\(t0=0\/dr sg s0 t0 a b<=b)/\Int.gcd (dr sg s0 t0 a b) (eF sg s1 t1 a b)=Int.gcd a b)
variable {p0 q0:Int}
theorem La.start{a b F:Int}(hq:0<=q0)(hp:q0<=p0):La a b F p0 q0 1 p0 q0 0 1 0 0 0 1:=by
 refine⟨.inl rfl,by omega,by omega,by omega,by decide,by decide,by decide,by decide,by decide,by decide,by decide,hq,hp,Int.le_refl _,?_,.inl ⟨rfl,rfl,rfl,rfl,rfl,rfl,rfl⟩⟩
 rw[eF,dr,show(1:Int)*(1*a-0*b)=a by omega,show -(1:Int)*(0*a-1*b)=b by omega]
theorem zH{F al be s t:Int}(hF:0<F)(ha0:0<=al)(ha1:al<F)(hb0:0<=be)(hb1:be<F)(hs0:0<=s)(ht0:0<=t)(hst:s<=t):
  -(t*(F-1))<=s*al-t*be/\s*al-t*be<=t*(F-1):=by
 have h1:s*al<=s*(F-1):=Jx (by omega) hs0
 have h2:s*(F-1)<=t*(F-1):=Jy hst (by omega)
 have h3:t*be<=t*(F-1):=Jx (by omega) ht0
 have h4:0<=s*al:=JJ hs0 ha0;have h5:0<=t*be:=JJ ht0 hb0;constructor<;>omega
variable {sg:Int}
theorem FG{M:Int}(hs:sg=1\/sg = -1)(h:-M<=x/\x<=M):-M<=sg*x/\sg*x<=M:=by
 rcases hs with rfl|rfl<;>omega
theorem Jn{t p:Int}(ht:1<=t)(hp:t<=p)(h:t*p<=p0)(h0:p0<1152921504606846976):t<1073741824:=by
 rcases(show t<1073741824\/1073741824<=t by omega) with h1|h1
 ·exact h1
 ·exfalso
  have h2:t*1073741824<=t*p:=Jx (by omega) (by omega)
  have h3:1073741824*1073741824<=t*1073741824:=Jy h1 (by decide)
  omega
variable {s0 s1 s2 t0 t1 t2:Int}
theorem La.step{a b F p q al be:Int}(h:La a b F p0 q0 sg p q s0 s1 s2 t0 t1 t2)(hF:0<F)(hp0:p0<1152921504606846976)
  (ea:a=p0*F+al) (eb:b=q0*F+be) (ha0:0<=al) (ha1:al<F) (hb0:0<=be) (hb1:be<F)
  (c1:t2<=q) (c2:t1+t2<=p-q):La a b F p0 q0 (-sg) q (p%q) s1 s2 (s1+p/q*s2) t1 t2 (t1+p/q*t2):=by
 have t2n:=h.t2n;have t1n:=h.t1n;have hq:0<q:=by omega
 have hd:1<=p/q:=(Int.le_ediv_iff_mul_le hq).2 (by have:=h.pq;omega)
 have hm:p%q=p-p/q*q:=by have:=Int.emod_add_mul_ediv p q;rw[JI q] at this;omega
 have hm0:=Int.emod_nonneg p (show q≠0 by omega)
 have hm1:=JK p hq;generalize p/q=d at *
 have hs2:=JJ (show 0<=d by omega) h.s2n
 have ht2:t2<=d*t2:=by have:=Jy hd (show 0<=t2 by omega);omega
 have hds:(d-1)*s2<=(d-1)*t2:=Jx h.st2 (by omega)
 rw[Int.sub_mul,Int.sub_mul,Int.one_mul,Int.one_mul] at hds
 have hst12:=h.st12;have hst2:=h.st2;have hs1n:=h.s1n;have hs2n:=h.s2n;have e2:dr sg s2 t2 a b=F*q-sg*(s2*al-t2*be):=by rw[dr,ea,eb,h.eq];grind
 have e1:eF sg s1 t1 a b-dr sg s2 t2 a b=F*(p-q)+sg*((s1+s2)*al-(t1+t2)*be):=by rw[dr,eF,ea,eb,h.eq,h.ep];grind
 have b2:=FG h.hs (zH hF ha0 ha1 hb0 hb1 h.s2n (by omega) h.st2)
 have b1:=FG h.hs (zH hF ha0 ha1 hb0 hb1 (s:=s1+s2) (t:=t1+t2) (by omega) (by omega) h.st12)
 have k2:F*t2<=F*q:=Jx c1 (by omega)
 have k1:F*(t1+t2)<=F*(p-q):=Jx c2 (by omega)
 have m2:t2*(F-1)=F*t2-t2:=by rw[Int.mul_sub,JI F];omega
 have m1:(t1+t2)*(F-1)=F*(t1+t2)-(t1+t2):=by rw[Int.mul_sub,JI F];omega
 have x2:0<=dr sg s2 t2 a b:=by omega
 have x1:dr sg s2 t2 a b<eF sg s1 t1 a b:=by omega
 have f1:eF (-sg) s2 t2 a b=dr sg s2 t2 a b:=rfl;have f0:dr (-sg) s1 t1 a b=eF sg s1 t1 a b:=by rw[dr,eF,Int.neg_neg]
 have f2:dr (-sg) (s1+d*s2) (t1+d*t2) a b=eF sg s1 t1 a b-d*dr sg s2 t2 a b:=by rw[dr,eF,dr];grind
 have hid:=h.idn;have htq:=JJ t1n h.qn;refine⟨by rcases h.hs with e|e<;>omega,h.eq,?_,?_,h.s2n,by omega,by omega,by omega,by omega,by omega,by omega,hm0,by omega,by have:=h.pp;have:=h.pq;omega,?_,.inr ⟨h.s1n,h.t1n,h.t12,?_,?_,h.st2,h.t2n,by rw[f1];exact x2,by rw[f1,f0];exact x1,?_,?_,?_⟩⟩
 ·rw[hm,h.ep,h.eq];grind
 ·rw[hm]
  have:(t1+d*t2)*q+t2*(p-d*q)=t2*p+t1*q:=by grind
  omega
 ·rw[f1,f2,Int.gcd_sub_mul_right_right,Int.gcd_comm];exact h.g
 ·exact Jn (p:=p) h.t2n (by have:=h.qn;omega) (by omega) hp0
 ·rcases h.prev with ⟨_,_,e,_⟩|⟨_,_,_,e,_,e',_⟩
  ·omega
  ·omega
 ·rw[f1]
  rcases h.prev with ⟨_,_,_,_,e3,e4,e5⟩|⟨_,_,_,_,_,_,_,_,_,e,_⟩
  ·rw[e3,e4,e5,dr];omega
  ·omega
 ·rw[f0]
  rcases h.prev with ⟨_,_,_,e,_⟩|⟨_,_,_,_,_,_,_,_,_,e,_⟩
  ·exact .inl e
  ·exact .inr e
 ·rw[f0,f1];exact h.g
theorem La.done{a b F p q:Int}(h:La a b F p0 q0 sg p q s0 s1 s2 t0 t1 t2)(ht:0<t0):
  0<=s0/\s0<1073741824/\t0<1073741824/\0<=s1/\s1<1073741824/\0<=t1/\t1<1073741824/\0<=eF sg s1 t1 a b/\eF sg s1 t1 a b<dr sg s0 t0 a b/\dr sg s0 t0 a b<=b/\Int.gcd (dr sg s0 t0 a b) (eF sg s1 t1 a b)=Int.gcd a b:=by
 rcases h.prev with ⟨_,e,_⟩|⟨h1,h2,h3,h4,h5,h6,h7,h8,h9,h10,h11,h12⟩
 ·omega
 ·exact⟨h1,h5,by omega,h.s1n,by omega,h.t1n,h4,h8,h9,by rcases h11 with e|e;omega;exact e,h12⟩
theorem La.bd{a b F p q:Int}(h:La a b F p0 q0 sg p q s0 s1 s2 t0 t1 t2)(hq:0<p)(hp0:p0<1152921504606846976):
  0<=s0/\s0<1073741824/\0<=t0/\t0<1073741824/\s1<=1073741824/\t1<1073741824/\t2<=p0/\s2<=p0:=by
 have h1:t2*1<=t2*p:=Jx (by omega) (by have:=h.t2n;omega)
 have h2:=JJ h.t1n h.qn;have h3:=h.idn;have h4:=h.st2;rcases h.prev with ⟨e1,e2,e3,e4,_⟩|⟨h1,h2,h3,h4,h5,h6,h7,h8,h9,h10,h11,h12⟩<;>refine⟨by omega,by omega,by omega,by omega,by omega,by omega,by omega,by omega⟩
theorem jK(xs:List Int)(i:Nat):val (xs.drop i)=gx xs i+4294967296*val (xs.drop (i+1)):=by
 by_cases h:i<xs.length
 ·rw[drop_cons xs i h];rfl
 ·rw[JL (by omega),JL (by omega),ak xs i (by omega) i (Jr _)];rfl
theorem jh(xs:List Int)(i:Nat):val xs=val (xs.take i)+pw i*val (xs.drop i):=by
 by_cases h:i<=xs.length
 ·exact da xs i h
 ·rw[Jv (by omega),JL (by omega)];simp[val]
theorem IH(i:Nat):pw i=2^(32*i):=by
 unfold pw;rw[Int.pow_mul];rfl
variable {xs:List Int}
theorem A7(h:U32 xs)(i:Nat):val xs/pw i=val (xs.drop i):=by
 have h1:=ar (an h i);have h2:=bN (an h i);have h3:pw (xs.take i).length<=pw i:=aW (List.length_take_le _ _);have h4:=bu i;rw[jh xs i,Int.add_mul_ediv_left _ _ (by omega),Int.ediv_eq_zero_of_lt h1 (by omega),Int.zero_add]
theorem xV{a b:Nat}(h:a<=b):(2:Int)^a<=2^b:=by
 obtain⟨c,rfl⟩:=Nat.exists_eq_add_of_le h;rw[Int.pow_add];have h1:(0:Int)<2^a:=Int.pow_pos (by decide)
 have h2:(0:Int)<2^c:=Int.pow_pos (by decide)
 have:(2:Int)^a*1<=2^a*2^c:=Jx (by omega) (by omega)
 omega
theorem C5(off:Nat)(h:off<=64):(2:Int)^off*2^(64-off)=18446744073709551616:=by
 rw[<-Int.pow_add,show off+(64-off)=64 by omega];rfl
theorem Bq(hU:U32 xs)(i off:Nat)(hoff:off<32)(hv:val xs<2^(32*i+off)*1152921504606846976):
  val xs/2^(32*i+off)=(gx xs i+4294967296*gx xs (i+1))/2^off+gx xs (i+2)*2^(64-off)/\gx xs (i+2)*2^(64-off)<1152921504606846976/\0<=(gx xs i+4294967296*gx xs (i+1))/2^off/\(gx xs i+4294967296*gx xs (i+1))/2^off<2^(64-off):=by
 have hE:(0:Int)<2^off:=Int.pow_pos (by decide)
 have hG:(0:Int)<2^(64-off):=Int.pow_pos (by decide)
 have hEG:=C5 off (by omega)
 have hE31:(2:Int)^off<=2147483648:=by have:=xV (show off<=31 by omega);omega
 have h0:=hU i;have h1:=hU (i+1);have h2:=hU (i+2);have hr:=ar (cd hU (i+1+1+1));have e0:=jK xs i;have e1:=jK xs (i+1);have e2:=jK xs (i+1+1);rw[show i+1+1=i+2 from rfl] at e1 e2 hr
 have hP:=bu i;have ep:(2:Int)^(32*i+off)=pw i*2^off:=by rw[Int.pow_add,IH]
 have hd:=A7 hU i;rw[ep,<-Int.ediv_ediv_of_nonneg (Int.le_of_lt hP),hd];rw[ep,JG] at hv
 have hlt:val (xs.drop i)<2^off*1152921504606846976:=by
  rw[<-hd];exact Int.ediv_lt_of_lt_mul hP (by rw[JI];exact hv)
 generalize (2:Int)^off=E at *
 generalize (2:Int)^(64-off)=G at *
 generalize val (xs.drop (i+2+1))=r at *
 have e3:val (xs.drop i)=(gx xs i+4294967296*gx xs (i+1))+18446744073709551616*gx xs (i+2)+79228162514264337593543950336*r:=by
  rw[e0,e1,e2];omega
 have hr0:r=0:=by omega
 have hm1:(gx xs i+4294967296*gx xs (i+1))/E<G:=Int.ediv_lt_of_lt_mul hE (by rw[JI G,hEG];omega)
 have hm0:0<=(gx xs i+4294967296*gx xs (i+1))/E:=Int.ediv_nonneg (by omega) (Int.le_of_lt hE)
 have e4:val (xs.drop i)/E=(gx xs i+4294967296*gx xs (i+1))/E+gx xs (i+2)*G:=by
  rw[e3,hr0,<-hEG,show gx xs i+4294967296*gx xs (i+1)+E*G*gx xs (i+2)+79228162514264337593543950336*0=gx xs i+4294967296*gx xs (i+1)+E*(gx xs (i+2)*G) by rw[JG,JI G];omega,Int.add_mul_ediv_left _ _ (by omega)]
 have hq:val (xs.drop i)/E<1152921504606846976:=Int.ediv_lt_of_lt_mul hE (by rw[JI 1152921504606846976];exact hlt)
 exact⟨e4,by omega,hm0,hm1⟩
theorem zy(x y:Int)(s:Nat)(hs:s<=64)(hx0:0<=x)(hx:x<2^s)(hy0:0<=y)(hy:y*2^s<18446744073709551616):bits .or .u64 x (y*2^s)=x+y*2^s:=by
 have h1:(2:Int)^s<=2^64:=xV hs;have h2:(2:Int)^64=18446744073709551616:=rfl;have hp:(0:Int)<2^s:=Int.pow_pos (by decide)
 exact bits_join_low .u64 64 (by decide) (fun n a b=>by rw[IntKind.wrap_u64];omega) s x (y*2^s) hx0 hx (by omega) (JJ hy0 (by omega)) (Int.mul_emod_left ..) (by omega)
theorem mN{q r:Int}(h:q*y+r=x):Int.gcd y r=Int.gcd x y:=by
 rw[<-h,Int.add_comm,Int.gcd_comm (r+q*y),Int.gcd_add_mul_right_right]
structure Kp(g h:Nat)(w w':World):Prop where
 block:∀k,k<w.heap.size->k≠g->k≠h->w'.heap[k]?=w.heap[k]?
 os:w'.os=w.os
 tape:w'.tape=w.tape
 output:w'.output=w.output
 size:w.heap.size<=w'.heap.size
theorem Kp.refl(g h:Nat)(w:World):Kp g h w w:=⟨fun _ _ _ _=>rfl,rfl,rfl,rfl,Jr _⟩
theorem Ee{M p k:Int}(h1:x+M*p=y)(h2:z=y+M*k)(hx0:0<=x)(hx1:x<M)(hz0:0<=z)(hz1:z<M):x=z:=by
 have e:z=x+M*(p+k):=by rw[JF];omega
 have hM:0<M:=by omega
 have h3:z%M=x%M:=by rw[e,Int.add_mul_emod_self_left]
 rw[Int.emod_eq_of_lt hz0 hz1,Int.emod_eq_of_lt hx0 hx1] at h3
 exact h3.symm
variable {c:Int}
theorem pU(h1:-1073741824<c)(h2:c<1073741824)(hx0:0<=x)(hx1:x<4294967296):-4611686013132439553<=c*x/\c*x<=4611686013132439553:=by
 have a1:c*x<=1073741823*x:=Jy (by omega) hx0
 have a2:-1073741823*x<=c*x:=Jy (by omega) hx0
 constructor<;>omega
variable {A:List Int} {k:Nat}
theorem vr{A' Bl:List Int}{p aa ab T:Int}(hA:k<A'.length)(hA2:k<A.length)(hB2:k<Bl.length)(h:val (A'.take k)+pw k*p=aa*val (A.take k)+ab*val (Bl.take k))(hT:T=p+(aa*gx A k+ab*gx Bl k)):
  val ((A'.set k (T%4294967296)).take (k+1))+pw (k+1)*(T/4294967296)=aa*val (A.take (k+1))+ab*val (Bl.take (k+1)):=by
 rw[aD _ k (by rw[List.length_set];exact hA),aD A k hA2,aD Bl k hB2,bK A' k _ hA,List.take_set_of_le (Jr _),bE]
 have e1:=iL (pw k) T;have e2:pw k*T=pw k*p+(aa*(pw k*gx A k)+ab*(pw k*gx Bl k)):=by rw[hT];grind
 rw[JF aa,JF ab];omega
theorem x9{A' Bl:List Int}{na nb:Nat}{p aa ab R:Int}(hU:U32 A')(hUA:U32 A)(hl:nb<=na)(h:val (A'.take nb)+pw nb*p=aa*val (A.take nb)+ab*val (Bl.take nb))(hR:R=aa*val (A.take na)+ab*val (Bl.take nb))(h0:0<=R)(h1:R<pw nb):val (A'.take nb)=R:=by
 have e1:=jh (A.take na) nb;rw[List.take_take,Nat.min_eq_left hl] at e1
 refine Ee (M:=pw nb) (p:=p) (k:=aa*val ((A.take na).drop nb)) h ?_ (ar (an hU _)) ?_ h0 h1
 ·rw[hR,e1,JF,JH (pw nb)];omega
 ·have:=bN (an hU nb)
  have h2:pw (A'.take nb).length<=pw nb:=aW (List.length_take_le _ _);omega
def H_(ga gb na nac nb nbc:Nat)(A Bl:List Int)(R1 R2:Int)(w:World)(e:Ending)(w':World):Prop:=
 ∃A' B',e=.returned (.tuple #[.slice (some ⟨ga,0,none⟩) (ad (A'.take nb)) nac,.slice (some ⟨gb,0,none⟩) (ad (B'.take nb)) nbc])/\A'.length=A.length/\B'.length=Bl.length/\U32 A'/\U32 B'/\val (A'.take nb)=R1/\val (B'.take nb)=R2/\Row w' ga 97 .u32 A'/\Row w' gb 97 .u32 B'/\Kp ga gb w w'
variable {g:Nat} {w1:World}
theorem Kp.set1{h:Nat}(k:Kp g h w w1)(j:Nat)(v:Value):Kp g h w (w1.setCell ⟨g,j,none⟩ v):=
 ⟨fun i hi a b=>(heap_setCell_other w1 ⟨g,j,none⟩ i v a).trans (k.block i hi a b),k.os,k.tape,k.output,by simp[World.setCell];exact k.size⟩
theorem Kp.b8{h:Nat}(k:Kp g h w w1)(j:Nat)(v:Value):Kp g h w (w1.setCell ⟨h,j,none⟩ v):=
 ⟨fun i hi a b=>(heap_setCell_other w1 ⟨h,j,none⟩ i v b).trans (k.block i hi a b),k.os,k.tape,k.output,by simp[World.setCell];exact k.size⟩
theorem Kp.drew{h:Nat}(k:Kp g h w w1):Kp g h w w1.drew:=⟨k.block,k.os,k.tape,k.output,k.size⟩
theorem Kp.alloc{h:Nat}(k:Kp g h w w1)(o:Obj):Kp g h w (w1.alloc o):=
 ⟨fun i hi a b=>(Below.heap_alloc w1 o i (JE hi k.size)).trans (k.block i hi a b),k.os,k.tape,k.output,by simp;have:=k.size;omega⟩
theorem xZ(ga gb na nac nb nbc:Nat)(A Bl:List Int)(aa ab ba bb R1 R2:Int)(w:World)(hA:Row w ga 97 .u32 A)(hB:Row w gb 97 .u32 Bl)(hg:ga≠gb)(hna:na<=A.length)(hnb:nb<=Bl.length)(hnn:nb<=na)(hnac:na<=nac)(hnac':nac<=1000000000)(hnbc:nb<=nbc)(hnbc':nbc<=1000000000)(hUA:U32 A)(hUB:U32 Bl)
  (a0:-1073741824<aa) (a1:aa<1073741824) (b0:-1073741824<ab) (b1:ab<1073741824) (c0:-1073741824<ba) (c1:ba<1073741824) (d0:-1073741824<bb) (d1:bb<1073741824)
  (e1:R1=aa*val (A.take na)+ab*val (Bl.take nb)) (e2:R2=ba*val (A.take na)+bb*val (Bl.take nb)) (r10:0<=R1) (r11:R1<pw nb) (r20:0<=R2) (r21:R2<pw nb):
  Calls Tryz.prog 176 #[.agg #[.int .i64 aa,.int .i64 ab,.int .i64 ba,.int .i64 bb],.slice (some ⟨ga,0,none⟩) na nac,.slice (some ⟨gb,0,none⟩) nb nbc] w (H_ ga gb na nac nb nbc A Bl R1 R2 w):=by
 have HE:Hid (R1=aa*val (A.take na)+ab*val (Bl.take nb)/\R2=ba*val (A.take na)+bb*val (Bl.take nb)/\0<=R1/\R1<pw nb/\0<=R2/\R2<pw nb):=⟨e1,e2,r10,r11,r20,r21⟩;clear e1 e2 r10 r11 r20 r21;have HR:Hid (Row w ga 97 .u32 A/\Row w gb 97 .u32 Bl):=⟨hA,hB⟩;have hgl:=hA.lt;have hbl:=hB.lt;have hgn:=hA.alloc (.cells #[.int .i64 aa,.int .i64 ab,.int .i64 ba,.int .i64 bb] 175);have hbn:=hB.alloc (.cells #[.int .i64 aa,.int .i64 ab,.int .i64 ba,.int .i64 bb] 175);go_enter Tryz.func176,Tryz.ntmps176;go_wp2;have hk0:Kp ga gb w (w.alloc (.cells #[.int .i64 aa,.int .i64 ab,.int .i64 ba,.int .i64 bb] 175)):=(Kp.refl _ _ _).alloc _;have hcc:∀wr:World,Kp ga gb (w.alloc (.cells #[.int .i64 aa,.int .i64 ab,.int .i64 ba,.int .i64 bb] 175)) wr->wr.heap[w.heap.size]?=some (.cells #[.int .i64 aa,.int .i64 ab,.int .i64 ba,.int .i64 bb] 175 (0,0)):=fun wr h=>(h.block _ (by simp) (by omega) (by omega)).trans (heap_alloc_new w _)
 generalize (w.alloc (.cells #[.int .i64 aa,.int .i64 ab,.int .i64 ba,.int .i64 bb] 175))=W at *
 have HC:Hid (∀wr:World,Kp ga gb W wr->wr.heap[w.heap.size]?=some (.cells #[.int .i64 aa,.int .i64 ab,.int .i64 ba,.int .i64 bb] 175 (0,0))):=hcc;clear hcc;go_loopw [8,9,15] (fun pv qv iv wr=>∃(k:Nat) (p q:Int) (A' B':List Int),k<=nb/\iv=.int .i64 k/\pv=.int .i64 p/\qv=.int .i64 q/\-2147483648<=p/\p<=2147483647/\-2147483648<=q/\q<=2147483647/\Hid (A'.length=A.length/\B'.length=Bl.length/\U32 A'/\U32 B'/\(∀j,k<=j->gx A' j=gx A j)/\(∀j,k<=j->gx B' j=gx Bl j)/\val (A'.take k)+pw k*p=aa*val (A.take k)+ab*val (Bl.take k)/\val (B'.take k)+pw k*q=ba*val (A.take k)+bb*val (Bl.take k)/\Row wr ga 97 .u32 A'/\Row wr gb 97 .u32 B'/\Kp ga gb W wr))
  (fun _ _ iv _=>(nb-intOf iv).toNat)
 case atStart=>exact⟨0,0,0,A,Bl,Jz _,by go_num,rfl,rfl,by decide,by decide,by decide,by decide,rfl,rfl,hUA,hUB,fun _ _=>rfl,fun _ _=>rfl,by simp[val],by simp[val],hgn,hbn,Kp.refl _ _ _⟩
 case round=>
  obtain⟨k,p,q,A',B',hk,rfl,rfl,rfl,hp0,hp1,hq0,hq1,H⟩:=hrel;by_cases hkn:k<nb
  ·obtain⟨f1,f2,f3,f4,f5,f6,f7,f8,f9,f10,f11⟩:=H.out
   have x0:=(f3 k).1;have x1:=(f3 k).2;have y0:=(f4 k).1;have y1:=(f4 k).2;have g1:=f9.cell k (by omega)
   have g2:=f9.frozen k;have g3:=f10.cell k (by omega)
   have g4:=f10.frozen k;have hsr:=HC.out wr f11;have s0:=cell_of_row wr w.heap.size 0 _ _ (0,0) hsr;have s1:=cell_of_row wr w.heap.size 1 _ _ (0,0) hsr;have s2:=cell_of_row wr w.heap.size 2 _ _ (0,0) hsr;have s3:=cell_of_row wr w.heap.size 3 _ _ (0,0) hsr;simp only[List.getElem?_toArray,List.getElem?_cons_zero,List.getElem?_cons_succ] at s0 s1 s2 s3
   have m1:=pU a0 a1 x0 x1;have m2:=pU b0 b1 y0 y1;have m3:=pU c0 c1 x0 x1;have m4:=pU d0 d1 y0 y1;have hkI:(k:Int)<(nb:Int):=by omega
   have hkI2:(k:Int)<(na:Int):=by omega
   clear f1 f2 f3 f4 f5 f6 f7 f8 f9 f10 f11 hsr;go_wp2;go_region;all_goals go_wp2
   obtain⟨f1,f2,f3,f4,f5,f6,f7,f8,f9,f10,f11⟩:=H.out;refine⟨⟨k+1,_,_,A'.set k ((p+(aa*gx A' k+ab*gx B' k))%4294967296),B'.set k ((q+(ba*gx A' k+bb*gx B' k))%4294967296),by omega,by go_num,rfl,rfl,by omega,by omega,by omega,by omega,by rw[List.length_set];exact f1,by rw[List.length_set];exact f2,dy f3 _ (by omega),dy f4 _ (by omega),fun j hj=>?_,fun j hj=>?_,?_,?_,?_,?_,?_⟩,by simp[intOf];omega⟩
   ·rw[cl A' _ _ _ (by omega)];exact f5 j (by omega)
   ·rw[cl B' _ _ _ (by omega)];exact f6 j (by omega)
   ·exact vr (by omega) (by omega) (by omega) f7 (by rw[f5 k (Jr _),f6 k (Jr _)])
   ·exact vr (by omega) (by omega) (by omega) f8 (by rw[f5 k (Jr _),f6 k (Jr _)])
   ·exact((f9.set k _).ah _ _ hg).drew
   ·exact(((f10.ah ⟨ga,k,none⟩ _ (fun e=>hg e.symm))).set k _).drew
   ·exact((f11.set1 k _).b8 k _).drew
  ·obtain rfl:k=nb:=by omega
   obtain⟨f1,f2,f3,f4,f5,f6,f7,f8,f9,f10,f11⟩:=H.out;have t1:=f9.b5 k;have t2:=f10.b5 k;have l1:(A'.take k).length=k:=by simp;omega
   have l2:(B'.take k).length=k:=by simp;omega
   have hslI:(k:Int)<=(nac:Int):=by omega
   have HT:Hid (Rd wr (some ⟨ga,0,none⟩) .u32 (A'.take k)/\Rd wr (some ⟨gb,0,none⟩) .u32 (B'.take k)/\(A'.take k).length=k/\(B'.take k).length=k):=⟨t1,t2,l1,l2⟩;clear f1 f2 f3 f4 f5 f6 f7 f8 f9 f10 f11 t1 t2 l1 l2;go_wp2_with fail;refine(aS (some ⟨ga,0,none⟩) k nac (A'.take k) _ HT.out.2.2.1 (by omega) (by unfold maxLen;omega) HT.out.1).mono ?_
   rintro e w1 ⟨rfl,rfl⟩;go_wp2_with fail;refine(aS (some ⟨gb,0,none⟩) k nbc (B'.take k) _ HT.out.2.2.2 (by omega) (by unfold maxLen;omega) HT.out.2.1).mono ?_
   rintro e w1 ⟨rfl,rfl⟩;go_wp2;go_ret2;obtain⟨f1,f2,f3,f4,f5,f6,f7,f8,f9,f10,f11⟩:=H.out;obtain⟨e1,e2,r10,r11,r20,r21⟩:=HE.out;exact⟨A',B',rfl,f1,f2,f3,f4,x9 f3 hUA hnn f7 e1 r10 r11,x9 f4 hUA hnn f8 e2 r20 r21,f9,f10,⟨fun i hi a b=>(f11.block i (by have:=hk0.size;omega) a b).trans (hk0.block i hi a b),f11.os.trans hk0.os,f11.tape.trans hk0.tape,f11.output.trans hk0.output,JA hk0.size f11.size⟩⟩
theorem D9(g:Nat)(p:Option Addr)(n nc:Nat)(xs:List Int)(j:Nat)(w:World)(hb:w.cell? ⟨g,0,none⟩=some (.slice p n nc))(hl:xs.length=n)(hn:n<=1000000)(hX:Rd w p .u32 xs)(hU:U32 xs):
  Calls Tryz.prog 211 #[.int .i64 j,.pointer (some ⟨g,0,none⟩)] w fun e w'=>e=.returned (.int .u64 (gx xs j))/\w=w':=by
 by_cases hj:j<n
 ·obtain⟨b,off,rfl,hcell⟩:=hX (by omega)
  have hc:=hcell j (by omega)
  have hjI:(j:Int)<(n:Int):=by omega
  obtain⟨u0,u1⟩:=hU j;clear hcell;go_enter Tryz.func211,Tryz.ntmps211;go_wp2;go_ret;exact⟨rfl,rfl⟩
 ·have hz:=ak xs n (by omega) j (by omega)
  rw[hz];go_enter Tryz.func211,Tryz.ntmps211;go_wp2;go_ret;exact⟨rfl,rfl⟩
theorem En(x y:Int)(x0:0<=x)(x1:x<4294967296)(y0:0<=y)(y1:y<4294967296):bits .or .u64 x (y*4294967296)=x+y*4294967296:=
 zy x y 32 (by decide) x0 (by omega) y0 (by omega)
theorem ye(p:Option Addr)(n nc:Nat)(xs:List Int)(i off:Nat)(V:Int)(w:World)(hl:xs.length=n)(hn:n<=1000000)(hX:Rd w p .u32 xs)(hU:U32 xs)(hi:i<=1000000)(hoff:off<32)
  (hV:bits .or .u64 ((gx xs i+gx xs (i+1)*4294967296)/2^off) (IntKind.u64.wrap (gx xs (i+2)*2^(64-off)))=V):
  Calls Tryz.prog 202 #[.slice p n nc,.int .i64 (32*(i:Int)+(off:Int))] w fun e w'=>e=.returned (.int .u64 V)/\Below w.heap.size w w':=by
 have q1:(32*(i:Int)+(off:Int))/32=(i:Int):=by omega
 have q2:(32*(i:Int)+(off:Int))%32=(off:Int):=by omega
 have q3:(off:Int)%32=(off:Int):=by omega
 have hoffI:(0:Int)<=(off:Int):=by omega
 have hoffJ:(off:Int)<=31:=by omega
 go_enter Tryz.func202,Tryz.ntmps202;go_wp2;have hc0:(w.alloc (.cells #[.slice p n nc] 48)).cell? ⟨w.heap.size,0,none⟩=some (.slice p n nc):=by simp[go_sem]
 have hX':=hX.alloc (.cells #[.slice p n nc] 48);have hbw:Below w.heap.size w (w.alloc (.cells #[.slice p n nc] 48)):=(Jt _ _).alloc (Jr _) _;generalize (w.alloc (.cells #[.slice p n nc] 48))=W at *
 have lq:∀(j x:Nat),Calls Tryz.prog 211 #[.int .i64 j,.pointer (some ⟨w.heap.size,0,none⟩)] (W.drewN x) fun e w''=>e=.returned (.int .u64 (gx xs j))/\∃m,w''=W.drewN m:=fun j x=>
  (D9 w.heap.size p n nc xs j (W.drewN x) hc0 hl hn hX' hU).mono fun e w'' ⟨h1,h2⟩=>⟨h1,x,h2.symm⟩
 have l0:=lq i;have l1:=lq (i+1);have l2:=lq (i+2);rw[show((i+1:Nat):Int)=(i:Int)+1 by omega] at l1
 rw[show((i+2:Nat):Int)=(i:Int)+2 by omega] at l2
 clear lq;obtain⟨u0,u1⟩:=hU i;obtain⟨v0,v1⟩:=hU (i+1);obtain⟨z0,z1⟩:=hU (i+2);have ho:=En (gx xs i) (gx xs (i+1)) u0 u1 v0 v1;generalize gx xs i=g0 at *
 generalize gx xs (i+1)=g1 at *
 generalize gx xs (i+2)=g2 at *
 clear hX hX' hU hl hc0;go_quiet (first|with_reducible exact l0 _|with_reducible exact l1 _|with_reducible exact l2 _)
 clear hV ho;go_wp2;go_ret;exact⟨rfl,below_drewN hbw _⟩
theorem nT(p:Option Addr)(n nc:Nat)(xs:List Int)(i off:Nat)(w:World)(hl:xs.length=n)(hn:n<=1000000)(hX:Rd w p .u32 xs)(hU:U32 xs)(hi:i<=1000000)(hoff:off<32)(hv:val xs<2^(32*i+off)*1152921504606846976):
  Calls Tryz.prog 202 #[.slice p n nc,.int .i64 (32*(i:Int)+(off:Int))] w fun e w'=>e=.returned (.int .u64 (val xs/2^(32*i+off)))/\Below w.heap.size w w':=by
 refine ye p n nc xs i off _ w hl hn hX hU hi hoff ?_;obtain⟨h1,h2,h3,h4⟩:=Bq hU i off hoff hv;have hz:=(hU (i+2)).1;have hG:(0:Int)<2^(64-off):=Int.pow_pos (by decide)
 have h5:=JJ hz (Int.le_of_lt hG);rw[IntKind.wrap_u64,Int.emod_eq_of_lt h5 (by omega),JI (gx xs (i+1)),zy _ _ _ (by omega) h3 h4 hz (by omega),h1]
end Go.Proofs.YtdjjlghlcffflaaGreatDoor
