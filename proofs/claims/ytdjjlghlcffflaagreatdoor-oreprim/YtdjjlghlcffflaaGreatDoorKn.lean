/- Own. -/
import Derived.Test.YtdjjlghlcffflaaGreatDoorKl
set_option linter.unusedVariables false
set_option linter.unusedSimpArgs false
set_option maxHeartbeats 8000000
set_option maxRecDepth 100000
namespace Go.Proofs.YtdjjlghlcffflaaGreatDoor
open Go.RowKit
variable {w:World} {K L:Nat} {x y:Int} {e f:Ent}
theorem yO(h:EV w K x e)(k:EV w L y f)(hK:K<=1000000)(hL:L<=1000000):Calls Tryz.prog 134 #[.agg #[.bool e.s,.slice e.p e.n e.c],.agg #[.bool f.s,.slice f.p f.n f.c]] w fun r w'=>∃u:Ent,r=.returned (.agg #[.bool u.s,.slice u.p u.n u.c])/\NV w.heap.size w' (K+L) (x*y) u/\Below w.heap.size w w':=by
 obtain⟨xs,h1,rfl,h3⟩:=h;obtain⟨ys,k1,rfl,k3⟩:=k;refine(FU e.s f.s e.p f.p e.n e.c f.n f.c xs ys w h1 k1 (by omega) (by omega)).mono ?_
 rintro r w' ⟨s',p',n',zs,g1,g2,g3,g4⟩;exact⟨⟨s',p',n',n'⟩,g1,⟨zs,g2,rfl,by show n'<=_;omega⟩,g4⟩
theorem Ip{α:Type}[Inhabited α](l:List α)(j:Nat)(h:l.length<=j):gt l j=default:=by simp[gt,List.getElem?_eq_none h]
theorem Io(l:List (List Int))(j:Nat):gt (otr l) j=if j<aE l then gt l j else []:=by
 split
 ·rename_i h
  exact pD l _ j h
 ·exact Ip _ _ (by rw[mU];omega)
theorem wI(l:List (List Int))(j t:Nat):gx (gt (otr l) j) t=gx (gt l j) t:=by
 rw[Io];split
 ·rfl
 ·have h1:=oD l j (by omega)
  have h2:gx (gt l j) t=gx (tr (gt l j)) t:=(aN _ _).symm;rw[h2,tr,h1];rfl
end Go.Proofs.YtdjjlghlcffflaaGreatDoor
namespace Go.Proofs.YtdjjlghlcffflaaGreatDoor.Sk
open Go.Proofs.YtdjjlghlcffflaaGreatDoor
def lu(al y:Int):Int:=if al=3 then y else 1
def lv(al:Int):Int:=if al=1 then 1 else 0
theorem ao(a b:List Int)(t:Nat):gx (ax a b) t=cv (gx a) (gx b) t:=by
 rw[cI,vI _ _ _ _ (Jr _),cv];have:∀n F,sq F n=sm n F:=fun n F=>by
  induction n with
  |zero=>rfl
  |succ n ih=>rw[sq,sm,ih]
 exact this _ _
theorem De(zss:List (List Int))(j:Nat)(h:aE zss<=j)(t:Nat):gx (gt zss j) t=0:=by
 rw[<-aN,tr,oD zss j h];rfl
end Go.Proofs.YtdjjlghlcffflaaGreatDoor.Sk
namespace Go.Proofs.YtdjjlghlcffflaaGreatDoor.Gs
open Go.Proofs.YtdjjlghlcffflaaGreatDoor
variable {i:Nat}
theorem sY{p:Int}{F:Nat->Int}:∀n,i<n->(∀k,k<n->k≠i->p∣F k)->p∣Sk.sm n F->p∣F i
 |0,h,_,_=>absurd h (Nat.not_lt_zero _)
 |n+1,h,hF,hs=>by
  rw[Sk.sm] at hs
  rcases Ju i n with h1|h1
  ·exact sY n h1 (fun k hk=>hF k (by omega)) ((Int.dvd_add_left (hF n (by omega) (by omega))).1 hs)
  ·obtain rfl:i=n:=by omega
   have h2:p∣Sk.sm i F:=by
    have e:∀m,m<=i->p∣Sk.sm m F:=fun m=>by
     induction m with
     |zero=>intro _;exact Int.dvd_zero p
     |succ m ih=>intro hm;exact Int.dvd_add (ih (by omega)) (hF m (by omega) (by omega))
    exact e i (Jr _)
   exact(Int.dvd_add_right h2).1 hs
variable {a:List Int}
theorem uK{p:Int}(h:¬∀t,p∣gx a t):∃i,¬p∣gx a i/\∀k,k<i->p∣gx a k:=by
 obtain⟨n,hn⟩:=Classical.not_forall.1 h;induction n using Nat.strongRecOn with
 |_ n ih=>
  by_cases h1:∀k,k<n->p∣gx a k
  ·exact⟨n,hn,h1⟩
  ·obtain⟨k,hk⟩:=Classical.not_forall.1 h1
   obtain⟨h2,h3⟩:=Classical.not_imp.1 hk;exact ih k h2 h3
variable {b:List Int}
theorem xo{p:Int}(hp:Pri p)(h:∀t,p∣gx (ax a b) t):(∀t,p∣gx a t)\/(∀t,p∣gx b t):=by
 by_cases ha:∀t,p∣gx a t
 ·exact .inl ha
 ·by_cases hb:∀t,p∣gx b t
  ·exact .inr hb
  ·exfalso
   obtain⟨i,h1,h2⟩:=uK ha;obtain⟨j,h3,h4⟩:=uK hb;have h5:=h (i+j);rw[Sk.ao,Sk.cv] at h5
   have h6:=sY (F:=fun k=>gx a k*gx b (i+j-k)) (i:=i) (i+j+1) (by omega) (fun k hk hne=>by
    rcases Ju k i with h7|h7
    ·exact Int.dvd_mul_of_dvd_left (h2 k h7)
    ·exact Int.dvd_mul_of_dvd_right (h4 _ (by omega))) h5
   simp only[Nat.add_sub_cancel_left] at h6
   rcases hp.2 _ _ h6 with h7|h7
   ·exact h1 h7
   ·exact h3 h7
def Prm(a:List Int):Prop:=∀p:Int,(∀t,p∣gx a t)->p.natAbs=1
theorem Er(ha:Prm a)(hb:Prm b):Prm (ax a b):=fun d hd=>by
 have hno:∀p:Int,Pri p->¬∀t,p∣gx (ax a b) t:=fun p hp h=>by
  rcases xo hp h with h1|h1
  ·have:=ha p h1;have:=hp.1;omega
  ·have:=hb p h1;have:=hp.1;omega
 rcases Nat.lt_trichotomy d.natAbs 1 with h|h|h
 ·exfalso
  have h0:d=0:=by omega
  obtain⟨p,h1,h2⟩:=mL 2 (by decide)
  refine hno p h2 fun t=>?_
  have h3:=hd t;rw[h0] at h3
  rw[Int.zero_dvd.1 h3];exact Int.dvd_zero _
 ·exact h
 ·exfalso
  obtain⟨p,h1,h2⟩:=mL _ h;exact hno p h2 fun t=>Int.dvd_trans (fX.2 h1) (hd t)
theorem eM(g:Int->Int)(h0:g 0=0)(a:List Int)(t:Nat):gx (a.map g) t=g (gx a t):=by
 rcases Ju t a.length with h|h
 ·simp[gx,h]
 ·rw[ak _ a.length (by simp) t h,ak a _ (Jr _) t h,h0]
theorem BK{d:List Int}(hd:Prm d):∀(n:Nat) (c:Int) (f q:List Int),c.natAbs=n->c≠0->(∀t,c*gx f t=gx (ax q d) t)->Dvd f d:=fun n=>by
 induction n using Nat.strongRecOn with
 |_ n ih=>
  intro c f q hc hc0 h;rcases Ju 1 n with h1|h1
  ·obtain⟨p,h2,h3⟩:=mL n h1
   have hpc:(p:Int)∣c:=fX.2 (by rw[hc];exact h2)
   have hpq:∀t,(p:Int)∣gx q t:=by
    rcases xo h3 (a:=q) (b:=d) (fun t=>by rw[<-h t];exact Int.dvd_mul_of_dvd_left hpc) with h4|h4
    ·exact h4
    ·have:=hd _ h4;have:=h3.1;omega
   have hp0:(p:Int)≠0:=fun e=>by have:=h3.1;rw[e] at this;simp at this
   obtain⟨c1,hc1⟩:=hpc;have hq1:∀t,gx q t=p*gx (q.map (· / (p:Int))) t:=fun t=>by
    rw[eM _ (by simp)]
    exact(Int.mul_ediv_cancel' (hpq t)).symm
   refine ih c1.natAbs ?_ c1 f (q.map (· / (p:Int))) rfl (fun e=>hc0 (by rw[hc1,e,JC])) (fun t=>?_)
   ·rw[<-hc,hc1,Int.natAbs_mul]
    have h5:0<c1.natAbs:=by
     rcases Jw c1.natAbs with h6|h6
     ·exact absurd (by rw[hc1,Int.natAbs_eq_zero.1 h6,JC]) hc0
     ·exact h6
    have h6:1<(p:Int).natAbs:=h3.1;have h7:=Nat.mul_lt_mul_of_pos_right h6 h5;omega
   ·have h5:=h t
    rw[Sk.ao,Sk.a_ (b:=fun i=>(p:Int)*gx (q.map (· / (p:Int))) i+0*gx (q.map (· / (p:Int))) i) (fun i=>by rw[hq1 i];omega) (fun _=>rfl),Sk.iM,hc1] at h5
    rw[Sk.ao];have h6:(p:Int)*(c1*gx f t)=p*Sk.cv (gx (q.map (· / (p:Int)))) (gx d) t:=by
     rw[<-JG];omega
    exact Int.eq_of_mul_eq_mul_left hp0 h6
  ·have hn1:n=1:=by
    rcases Jw n with h2|h2
    ·exact absurd (Int.natAbs_eq_zero.1 (by rw[hc,h2])) hc0
    ·omega
   have hcc:c*c=1:=by
    rcases Int.natAbs_eq c with h2|h2<;>rw[h2,hc,hn1]<;>rfl
   refine⟨q.map (c * ·),fun t=>?_⟩
   rw[Sk.ao,Sk.a_ (b:=fun i=>c*gx q i+0*gx q i) (fun i=>by rw[eM _ (JC c)];omega) (fun _=>rfl),Sk.iM,<-Sk.ao,<-h t]
   rw[<-JG,hcc];omega
end Go.Proofs.YtdjjlghlcffflaaGreatDoor.Gs
namespace Go.Proofs.YtdjjlghlcffflaaGreatDoor.Cp
open Go.Proofs.YtdjjlghlcffflaaGreatDoor
def gap:Nat->Nat->Nat->Bool
 |0,_,_=>false
 |k+1,n,q=>bif n==q then ipF q else bif ipF n then false else gap k (n-2) q
def Nx(p q:Nat):Prop:=q+2<=p/\(p-q)%2=0/\ip q=true/\∀j,q<j->j<p->(p-j)%2=0->ip j=false
theorem BU:∀(k n q:Nat),3<q->n<4294967296->gap k n q=true->q<=n/\(n-q)%2=0/\ip q=true/\∀j,q<j->j<=n->(n-j)%2=0->ip j=false
 |0,_,_,_,_,h=>by cases h
 |k+1,n,q,hq,hn,h=>by
  rw[gap] at h
  by_cases e:n=q
  ·subst e
   rw[show(n==n)=true from beq_self_eq_true n,cond_true,B4 (by omega) hn] at h
   exact⟨Jr _,by omega,h,fun j h1 h2=>by omega⟩
  ·rw[show(n==q)=false from by rw[beq_eq_false_iff_ne];exact e,cond_false] at h
   cases hi:ipF n with
   |true=>rw[hi,cond_true] at h;cases h
   |false=>
    rw[hi,cond_false] at h
    obtain⟨h1,h2,h3,h4⟩:=BU k (n-2) q hq (by omega) h
    have h5:q+2<=n:=by omega
    rw[B4 (by omega) hn] at hi
    refine⟨by omega,by omega,h3,fun j h6 h7 h8=>?_⟩
    rcases Ju j n with h9|h9
    ·exact h4 j h6 (by omega) (by omega)
    ·obtain rfl:j=n:=by omega
     exact hi
def row:Nat->List Nat->Bool
 |_,[]=>true
 |p,q::l=>bif gap 400 (p-2) q then row q l else false
theorem CP:∀(l:List Nat) (p:Nat),p<4294967296->(∀q∈l,3<q/\q<4294967296)->row p l=true->∀k,k<l.length->Nx ((p::l).getD k 0) (l.getD k 0)
 | [],_,_,_,_,k,hk=>absurd hk (Nat.not_lt_zero _)
 |q::l,p,hp,hl,h,k,hk=>by
  rw[row] at h
  cases hg:gap 400 (p-2) q with
  |false=>rw[hg,cond_false] at h;cases h
  |true=>
   rw[hg,cond_true] at h
   have hq:=hl q (List.mem_cons_self ..);obtain⟨h1,h2,h3,h4⟩:=BU 400 (p-2) q hq.1 (by omega) hg
   cases k with
   |zero=>exact⟨by show q+2<=p;omega,by show(p-q)%2=0;omega,h3,fun j h5 h6 h7=>h4 j h5 (by have:j<p:=h6;have:(p-j)%2=0:=h7;omega) (by have:j<p:=h6;have:(p-j)%2=0:=h7;omega)⟩
   |succ k=>
    have:=CP l q hq.2 (fun x hx=>hl x (List.mem_cons_of_mem _ hx)) h k (by simpa using hk)
    simpa using this
def chain:List Nat:=[
 2147483647,2147483629,2147483587,2147483579,2147483563,2147483549,2147483543,2147483497,2147483489,2147483477,2147483423,2147483399,2147483353,2147483323,
 2147483269,2147483249,2147483237,2147483179,2147483171,2147483137,2147483123,2147483077,2147483069,2147483059,2147483053,2147483033,2147483029,2147482951,
 2147482949,2147482943,2147482937,2147482921,2147482877,2147482873,2147482867,2147482859,2147482819,2147482817,2147482811,2147482801,2147482763,2147482739,
 2147482697,2147482693,2147482681,2147482663,2147482661,2147482621,2147482591,2147482583,2147482577,2147482507,2147482501,2147482481,2147482417,2147482409,
 2147482367,2147482361,2147482349,2147482343,2147482327,2147482291,2147482273,2147482237,2147482231,2147482223,2147482121,2147482093,2147482091,2147482081,
 2147482063,2147482021,2147481997,2147481967,2147481949,2147481937,2147481907,2147481901,2147481899,2147481893,2147481883,2147481863,2147481827,2147481811,
 2147481797,2147481793,2147481673,2147481629,2147481571,2147481563,2147481529,2147481509,2147481499,2147481491,2147481487,2147481373,2147481367,2147481359,
 2147481353,2147481337,2147481317,2147481311,2147481283,2147481269,2147481263,2147481247,2147481209,2147481199,2147481179,2147481173,2147481151,2147481143,
 2147481139,2147481071,2147481053,2147481031,2147481019,2147480989,2147480971,2147480969,2147480957,2147480941,2147480927,2147480921,2147480899,2147480897,
 2147480893,2147480849,2147480843,2147480837,2147480791,2147480747,2147480743,2147480723,2147480707,2147480683,2147480677,2147480651,2147480641,2147480623,
 2147480611,2147480591,2147480551,2147480527,2147480519,2147480507,2147480471,2147480459,2147480437,2147480429,2147480369,2147480327,2147480311,2147480299,
 2147480297,2147480227,2147480219,2147480207,2147480197,2147480161,2147480039,2147480011,2147480009,2147479991,2147479937,2147479907,2147479897,2147479891,
 2147479879,2147479823,2147479819,2147479787,2147479781,2147479757,2147479753,2147479751,2147479681,2147479657,2147479643,2147479637,2147479619,2147479601,
 2147479589,2147479573,2147479549,2147479547,2147479531,2147479517,2147479513,2147479507,2147479489,2147479447,2147479421,2147479403,2147479381,2147479361,
 2147479349,2147479339,2147479307,2147479273,2147479259,2147479231,2147479189,2147479171,2147479133,2147479129,2147479121,2147479097,2147479091,2147479079,
 2147479063,2147479057,2147479031,2147479013,2147478997,2147478967,2147478961,2147478959,2147478937,2147478919,2147478911,2147478899,2147478889,2147478863,
 2147478859,2147478821,2147478791,2147478763,2147478733,2147478731,2147478727,2147478721,2147478719,2147478703,2147478701,2147478673,2147478661,2147478659,
 2147478653,2147478649,2147478647,2147478611,2147478601,2147478581,2147478569,2147478563,2147478521,2147478517,2147478503,2147478497,2147478491,2147478481,
 2147478461,2147478373,2147478349,2147478331,2147478299,2147478293,2147478259,2147478253,2147478149,2147478133,2147478127,2147478089,2147478083,2147478079,
 2147478049,2147478017,2147478013,2147477989,2147477953,2147477933,2147477881,2147477879,2147477873,2147477861,2147477851,2147477833,2147477809,2147477807,
 2147477737,2147477701,2147477699,2147477687,2147477681,2147477627,2147477599,2147477533,2147477531,2147477513,2147477503,2147477473,2147477467,2147477443,
 2147477419,2147477399,2147477393,2147477323,2147477273,2147477249,2147477237,2147477209,2147477207,2147477203,2147477201,2147477191,2147477159,2147477113,
 2147477107,2147477093,2147477063,2147477029,2147477021,2147476979,2147476963,2147476951,2147476943,2147476937,2147476931,2147476927]
theorem nV:chain.length=320:=by decide +kernel
theorem By:(match chain with | []=>false|p::l=>row p l)=true:=by decide +kernel
theorem kf:∀q∈chain,3<q/\q<=2147483647:=by decide +kernel
theorem vZ:∀q∈chain,9<=q:=by decide +kernel
variable {k:Nat}
theorem rV(hk:k<319):Nx (chain.getD k 0) (chain.getD (k+1) 0):=by
 have h:=By;have hb:=kf;have hn:=nV;generalize chain=c at *
 cases c with
 |nil=>cases h
 |cons p l=>
  have h1:=hb p (List.mem_cons_self ..);have:=CP l p (by omega) (fun q hq=>by have:=hb q (List.mem_cons_of_mem _ hq);omega) h k (by simp at hn;omega)
  simpa using this
def aH:List Nat->Nat
 | []=>1
 |p::l=>p*aH l
theorem jw:∀(l:List Nat) (p:Nat),p∈l->p∣aH l
 |q::l,p,h=>by
  rw[aH];rcases List.mem_cons.1 h with rfl|h
  ·exact Nat.dvd_mul_right _ _
  ·exact Nat.dvd_trans (jw l p h) (Nat.dvd_mul_left _ _)
theorem Bw:Nat.gcd (pM 16 2) (aH chain)=1:=by decide +kernel
theorem kM{p:Nat}(hp:p∈chain):Gs.Pri (p:Int):=by
 have hb:=kf p hp;refine Gs.sI (by omega) fun d h1 h2=>?_
 obtain⟨e,rfl⟩:=h2;have hpp:=jw _ _ hp;have he0:0<e:=Nat.pos_of_ne_zero fun h=>by rw[h,Nat.mul_zero] at hb;omega
 rcases Ju 1 e with h3|h3
 ·exfalso
  have key:∀x,1<x->x<65538->x∣d*e->False:=fun x x1 x2 x3=>by
   have h4:x∣Nat.gcd (pM 16 2) (aH chain):=Nat.dvd_gcd (oc 16 2 x x1 (by omega)) (Nat.dvd_trans x3 hpp)
   rw[Bw] at h4
   have:=Nat.le_of_dvd (by omega) h4
   omega
  rcases Ju d 46341 with h4|h4
  ·exact key d h1 (by omega) (Nat.dvd_mul_right _ _)
  ·rcases Ju e 46341 with h5|h5
   ·exact key e h3 (by omega) (Nat.dvd_mul_left _ _)
   ·have:=Nat.mul_le_mul h4 h5
    omega
 ·obtain rfl:e=1:=by omega
  exact(Nat.mul_one d).symm
theorem m_{p q:Nat}(hp:Gs.Pri (p:Int))(hq:Gs.Pri (q:Int))(h:(p:Int)∣(q:Int)):p=q:=by
 have p1:1<p:=by simpa using hp.1
 have q1:1<q:=by simpa using hq.1
 obtain⟨k,hk⟩:=Int.natCast_dvd_natCast.1 h;have h2:(q:Int)∣(p:Int)*(k:Int):=⟨1,by rw[hk,Int.natCast_mul];omega⟩
 rcases hq.2 _ _ h2 with h3|h3
 ·exact Nat.dvd_antisymm (Int.natCast_dvd_natCast.1 h) (Int.natCast_dvd_natCast.1 h3)
 ·exfalso
  have h4:=Int.natCast_dvd_natCast.1 h3;have k0:0<k:=Nat.pos_of_ne_zero fun e=>by rw[e,Nat.mul_zero] at hk;omega
  have h5:=Nat.le_of_dvd k0 h4;have h6:=Nat.mul_le_mul_right k (show 2<=p by omega)
  omega
theorem jE{p:Nat}(hp:Gs.Pri (p:Int)):∀l:List Nat,(p:Int)∣((aH l:Nat):Int)->∃q∈l,(p:Int)∣(q:Int)
 | [],h=>by
  exfalso;have h1:=Int.natCast_dvd_natCast.1 h;have h2:=Nat.le_of_dvd (by decide) h1
  have h3:aH []=1:=rfl;have h4:1<p:=by simpa using hp.1
  omega
 |q::l,h=>by
  rw[aH,Int.natCast_mul] at h
  rcases hp.2 _ _ h with h1|h1
  ·exact⟨q,List.mem_cons_self ..,h1⟩
  ·obtain⟨r,h2,h3⟩:=jE hp l h1
   exact⟨r,List.mem_cons_of_mem _ h2,h3⟩
theorem oH{X:Int}:∀l:List Nat,l.Nodup->(∀p∈l,Gs.Pri (p:Int))->(∀p∈l,(p:Int)∣X)->((aH l:Nat):Int)∣X
 | [],_,_,_=>⟨X,by rw[show aH []=1 from rfl];omega⟩
 |p::l,hn,hp,hd=>by
  obtain⟨hn1,hn2⟩:=List.nodup_cons.1 hn;obtain⟨Y,hY⟩:=oH l hn2 (fun q hq=>hp q (List.mem_cons_of_mem _ hq)) (fun q hq=>hd q (List.mem_cons_of_mem _ hq))
  have hpp:=hp p (List.mem_cons_self ..);have h1:=hd p (List.mem_cons_self ..);rw[hY] at h1
  rcases hpp.2 _ _ h1 with h2|⟨Z,hZ⟩
  ·exfalso
   obtain⟨q,h3,h4⟩:=jE hpp l h2;have:=m_ hpp (hp q (List.mem_cons_of_mem _ h3)) h4;rw[this] at hn1
   exact hn1 h3
  ·refine⟨Z,?_⟩
   rw[hY,hZ,aH,Int.natCast_mul,JH,JG]
theorem rF:∀l:List Nat,(∀p∈l,2^30<=p)->2^(30*l.length)<=aH l
 | [],_=>by simp[aH]
 |p::l,h=>by
  rw[aH,List.length_cons,Nat.mul_add,Nat.mul_one,Nat.pow_add,Nat.mul_comm];exact Nat.mul_le_mul (h p (List.mem_cons_self ..)) (rF l fun q hq=>h q (List.mem_cons_of_mem _ hq))
variable {B:Nat}
theorem sf{X:Int}(h0:X≠0)(hB:X.natAbs<=2^B)(l:List Nat)(hn:l.Nodup)(hp:∀p∈l,Gs.Pri (p:Int))(hb:∀p∈l,2^30<=p)(hd:∀p∈l,(p:Int)∣X):30*l.length<=B:=by
 have h1:=Int.natAbs_dvd_natAbs.2 (oH l hn hp hd);rw[Int.natAbs_natCast] at h1
 have h2:=Nat.le_of_dvd (by omega) h1
 have h3:=rF l hb;exact(Nat.pow_le_pow_iff_right (by decide)).1 (JA h3 (JA h2 hB))
theorem yf:chain.Nodup:=by
 have h:∀(l:List Nat),l.Pairwise (fun a b=>b<a)->l.Nodup:=fun l h=>List.Pairwise.imp (fun h=>by omega) h
 exact h _ (by decide +kernel)
theorem qK:∀q∈chain,2^30<=q:=by decide +kernel
def ch:Nat->Nat->Int
 |_,0=>1
 |0,_+1=>0
 |n+1,k+1=>ch n k+ch n (k+1)
theorem lN(n:Nat):ch n 0=1:=by cases n<;>rfl
theorem o_:∀n k,n<k->ch n k=0
 |_,0,h=>absurd h (Nat.not_lt_zero _)
 |0,_+1,_=>rfl
 |n+1,k+1,h=>by rw[ch,o_ n k (by omega),o_ n (k+1) (by omega)];rfl
theorem yV:∀n,ch n n=1
 |0=>rfl
 |n+1=>by rw[ch,yV n,o_ n (n+1) (by omega)];rfl
theorem mG:∀n k,((k+1:Nat):Int)*ch (n+1) (k+1)=((n+1:Nat):Int)*ch n k
 |0,0=>by simp[ch]
 |0,k+1=>by simp[ch]
 |n+1,0=>by
  have h:=mG n 0;rw[lN] at h ⊢
  rw[ch,lN];simp only[Int.natCast_add,Int.cast_ofNat_Int,Int.natCast_one,Int.zero_add,Int.one_mul,Int.mul_one] at h ⊢
  omega
 |n+1,k+1=>by
  have h1:=mG n k;have h2:=mG n (k+1);rw[ch];have e1:((k+1+1:Nat):Int)=((k+1:Nat):Int)+1:=by omega
  have e2:((n+1+1:Nat):Int)=((n+1:Nat):Int)+1:=by omega
  have e3:ch (n+1) (k+1)=ch n k+ch n (k+1):=rfl;rw[e1] at h2 ⊢
  rw[e2];generalize ((k+1:Nat):Int)=K at *
  generalize ((n+1:Nat):Int)=N at *
  generalize ch (n+1) (k+1)=u at *
  generalize ch (n+1) (k+1+1)=v at *
  have t1:(K+1)*(u+v)=K*u+u+(K+1)*v:=by rw[JF,Int.add_mul,Int.one_mul]
  rw[t1,h1,h2,Int.add_mul,Int.one_mul,e3,JF];omega
def su(f:Nat->Int):Nat->Int
 |0=>0
 |n+1=>su f n+f n
theorem cU{f g:Nat->Int}:∀n,(∀i,i<n->f i=g i)->su f n=su g n
 |0,_=>rfl
 |n+1,h=>by rw[su,su,cU n fun i hi=>h i (by omega),h n (by omega)]
theorem mw(f g:Nat->Int):∀n,su (fun i=>f i+g i) n=su f n+su g n
 |0=>rfl
 |n+1=>by rw[su,su,su,mw f g n];omega
theorem my(c:Int)(f:Nat->Int):∀n,su (fun i=>c*f i) n=c*su f n
 |0=>(JC c).symm
 |n+1=>by rw[su,su,my c f n,JF]
theorem nB(f:Nat->Int):∀n,su f (n+1)=f 0+su (fun i=>f (i+1)) n
 |0=>by simp[su]
 |n+1=>by rw[su,nB f n,su];omega
theorem fB{p:Int}{f:Nat->Int}:∀n,(∀i,i<n->p∣f i)->p∣su f n
 |0,_=>Int.dvd_zero p
 |n+1,h=>by rw[su];exact Int.dvd_add (fB n fun i hi=>h i (by omega)) (h n (by omega))
theorem Fo(x:Int):∀n,su (fun k=>ch n k*x^k) (n+1)=(x+1)^n
 |0=>by simp[su,ch]
 |n+1=>by
  have ih:=Fo x n;rw[nB];have e:su (fun i=>ch (n+1) (i+1)*x^(i+1)) (n+1)=x*su (fun k=>ch n k*x^k) (n+1)+su (fun i=>ch n (i+1)*x^(i+1)) (n+1):=by
   rw[<-my,<-mw];refine cU _ fun i _=>?_
   rw[ch,Int.add_mul,Int.pow_succ];congr 1;rw[<-JG,JI (ch n i*x^i) x]
  have e2:ch (n+1) 0*x^0+su (fun i=>ch n (i+1)*x^(i+1)) (n+1)=(x+1)^n:=by
   have h:=nB (fun k=>ch n k*x^k) (n+1)
   rw[su,ih,o_ n (n+1) (by omega),Int.zero_mul,Int.add_zero] at h
   rw[h,lN,lN]
  rw[e,ih,Int.pow_succ,JF,Int.mul_one,JI x];omega
theorem IE{p:Nat}(hp:Gs.Pri (p:Int))(h0:0<k)(h1:k<p):(p:Int)∣ch p k:=by
 obtain⟨q,rfl⟩:∃q,p=q+1:=⟨p-1,by omega⟩
 obtain⟨j,rfl⟩:∃j,k=j+1:=⟨k-1,by omega⟩
 have h:=mG q j;have hd:((q+1:Nat):Int)∣((j+1:Nat):Int)*ch (q+1) (j+1):=⟨_,h⟩;rcases hp.2 _ _ hd with h2|h2
 ·have:=Int.le_of_dvd (by omega) h2
  omega
 ·exact h2
theorem se{p:Nat}(hp:Gs.Pri (p:Int)):∀a:Nat,(p:Int)∣(a:Int)^p-(a:Int)
 |0=>by
  have h1:=hp.1;obtain⟨q,rfl⟩:∃q,p=q+1:=⟨p-1,by simp at h1;omega⟩
  rw[Int.pow_succ];simp
 |a+1=>by
  have ih:=se hp a;have h1:=hp.1;obtain⟨q,hq⟩:∃q,p=q+1:=⟨p-1,by simp at h1;omega⟩
  have hb:=Fo (a:Int) p;have hs:su (fun k=>ch p k*(a:Int)^k) (p+1)=1+su (fun i=>ch p (i+1)*(a:Int)^(i+1)) q+(a:Int)^p:=by
   rw[su,yV,Int.one_mul,hq,nB,lN,Int.pow_zero,Int.mul_one]
  have hd:(p:Int)∣su (fun i=>ch p (i+1)*(a:Int)^(i+1)) q:=fB _ fun i hi=>Int.dvd_mul_of_dvd_left (IE hp (by omega) (by omega))
  have e:((a+1:Nat):Int)^p-((a+1:Nat):Int)=su (fun i=>ch p (i+1)*(a:Int)^(i+1)) q+((a:Int)^p-(a:Int)):=by
   have e0:((a+1:Nat):Int)=(a:Int)+1:=by omega
   rw[e0,<-hb,hs];omega
  rw[e];exact Int.dvd_add hd ih
theorem wx(x m:Int):∀j:Nat,(x%m)^j%m=x^j%m
 |0=>by simp
 |j+1=>by rw[Int.pow_succ,Int.pow_succ,Int.mul_emod,wx x m j,Int.emod_emod,<-Int.mul_emod]
theorem BS{p:Nat}(hp:Gs.Pri (p:Int)){a:Int}(ha:¬(p:Int)∣a):(a*(a^(p-2)%(p:Int)))%(p:Int)=1:=by
 have h1:1<p:=by simpa using hp.1
 have hp0:(p:Int)≠0:=by omega
 have hr:=Int.emod_nonneg a hp0;obtain⟨n,hn⟩:∃n:Nat,a%(p:Int)=(n:Int):=⟨(a%(p:Int)).toNat,by omega⟩
 have h:=se hp n;have e:∀x:Int,x^p=x*(x*x^(p-2)):=fun x=>by
  rw[<-Int.pow_succ',<-Int.pow_succ'];congr 1;omega
 have hd:(p:Int)∣(n:Int)*((n:Int)*(n:Int)^(p-2)-1):=by
  rw[Int.mul_sub,Int.mul_one,<-e];exact h
 have hna:¬(p:Int)∣(n:Int):=fun h2=>by
  rw[<-hn] at h2
  exact ha (Int.dvd_of_emod_eq_zero (by have:=Int.emod_eq_zero_of_dvd h2;rwa [Int.emod_emod] at this))
 rcases hp.2 _ _ hd with h2|h2
 ·exact absurd h2 hna
 ·have h3:((n:Int)*(n:Int)^(p-2))%(p:Int)=1:=by
   obtain⟨c,hc⟩:=h2;have h5:(n:Int)*(n:Int)^(p-2)=1+(p:Int)*c:=by omega
   rw[h5,Int.add_mul_emod_self_left];exact Int.emod_eq_of_lt (by omega) (by omega)
  have h6:(a*(a^(p-2)%(p:Int)))%(p:Int)=((a%(p:Int))*((a%(p:Int))^(p-2)))%(p:Int):=by
   rw[Int.mul_emod,Int.emod_emod]
   conv=>rhs;rw[Int.mul_emod,Int.emod_emod,wx]
  rw[h6,hn];exact h3
end Go.Proofs.YtdjjlghlcffflaaGreatDoor.Cp
namespace Go.Proofs.YtdjjlghlcffflaaGreatDoor.Md
open Go.Proofs.YtdjjlghlcffflaaGreatDoor
structure Idl(p:Int)(I:(Nat->Int)->Prop):Prop where
 cg:∀{f g:Nat->Int},I f->(∀t,p∣g t-f t)->I g
 add:∀{f g:Nat->Int},I f->I g->I fun t=>f t+g t
 mul:∀{f:Nat->Int} (c:Int),I f->I fun t=>c*f t
 sh:∀{f:Nat->Int} (k:Nat),I f->I fun t=>if t<k then 0 else f (t-k)
def tk(Z:List Int)(k:Nat):Nat->Int:=fun t=>if t<k then gx Z t else 0
theorem bK(Z:List Int)(i:Nat)(v:Int)(h:i<Z.length):gx (Z.set i v) i=v:=by
 rw[bZ _ _ (by rw[List.length_set];exact h)]
 simp
theorem qX(m c:Int)(bs:List Int)(o:Nat):∀t Z,o+t<=Z.length->∀i,i<o+t->gx (cP m c bs o t Z) i=if o<=i then (gx Z i+c*gx bs (i-o))%m else gx Z i
 |0,Z,_,i,hi=>by rw[if_neg (by omega)];rfl
 |t+1,Z,h,i,hi=>by
  rw[cP];by_cases e:i=o+t
  ·subst e
   rw[bK _ _ _ (by rw[eO];omega),if_pos (by omega),Nat.add_sub_cancel_left]
  ·rw[mO _ _ _ _ (by omega),qX m c bs o t Z (by omega) i (by omega)]
theorem dP(p x:Int):p∣x%p-x:=by
 rw[Int.emod_def];exact⟨-(x/p),by rw[Int.mul_neg];omega⟩
variable {p:Int} {I:(Nat->Int)->Prop}
variable {bs Z:List Int} {n j:Nat}
theorem EW(hn:n+j<Z.length)(h1:p∣gx bs n-1)(h0:∀t,n<t->gx bs t=0)(t:Nat):
  p∣tk (if (0-gx Z (n+j))%p=0 then Z else cP p ((0-gx Z (n+j))%p) bs j n Z) (n+j) t-(tk Z (n+j+1) t+((0-gx Z (n+j))%p)*(if t<j then 0 else gx bs (t-j))):=by
 have hc:=dP p (0-gx Z (n+j));generalize hcc:(0-gx Z (n+j))%p=c at *
 rcases Nat.lt_trichotomy t (n+j) with h|h|h
 ·unfold tk
  rw[if_pos h,if_pos (show t<n+j+1 by omega)]
  by_cases hj:t<j
  ·rw[if_pos hj,JC,Int.add_zero]
   split
   ·rw[Int.sub_self];exact Int.dvd_zero p
   ·rw[qX p c bs j n Z (by omega) t (by omega),if_neg (by omega),Int.sub_self]
    exact Int.dvd_zero p
  ·rw[if_neg hj]
   split
   ·rename_i hz
    rw[hz,Int.zero_mul,Int.add_zero,Int.sub_self];exact Int.dvd_zero p
   ·rw[qX p c bs j n Z (by omega) t (by omega),if_pos (by omega)]
    exact dP p _
 ·subst h
  unfold tk;rw[if_neg (by omega),if_pos (by omega),if_neg (by omega),JD]
  obtain⟨u,hu⟩:=hc;obtain⟨v,hv⟩:=h1;have e1:c=p*u-gx Z (n+j):=by omega
  have e2:gx bs n=p*v+1:=by omega
  rw[e1,e2];refine⟨-(u+(p*u-gx Z (n+j))*v),?_⟩;generalize gx Z (n+j)=z;rw[JF,Int.mul_one,Int.mul_neg,JF];have e3:(p*u-z)*(p*v)=p*((p*u-z)*v):=by rw[JH]
  rw[e3];omega
 ·unfold tk
  rw[if_neg (by omega),if_neg (by omega)]
  by_cases hj:t<j
  ·rw[if_pos hj,JC];exact Int.dvd_zero p
  ·rw[if_neg hj,h0 _ (by omega),JC];exact Int.dvd_zero p
theorem EU(H:Idl p I)(hn:n+j<Z.length)(h1:p∣gx bs n-1)(h0:∀t,n<t->gx bs t=0)(hb:I (gx bs)):
  I (tk Z (n+j+1))<->I (tk (if (0-gx Z (n+j))%p=0 then Z else cP p ((0-gx Z (n+j))%p) bs j n Z) (n+j)):=by
 have key:=EW hn h1 h0;refine⟨fun h=>H.cg (H.add h (H.mul ((0-gx Z (n+j))%p) (H.sh j hb))) key,fun h=>H.cg (H.add h (H.mul (-((0-gx Z (n+j))%p)) (H.sh j hb))) fun t=>?_⟩
 obtain⟨u,hu⟩:=key t;refine⟨-u,?_⟩;rw[Int.mul_neg,<-hu,Int.neg_mul];omega
theorem vh(H:Idl p I)(h1:p∣gx bs n-1)(h0:∀t,n<t->gx bs t=0)(hb:I (gx bs)):∀j Z,n+j<=Z.length->
  (I (tk Z (n+j))<->I (tk (bX p bs n j Z) n))
 |0,Z,_=>Iff.rfl
 |j+1,Z,h=>by
  rw[bX];refine(EU H (by omega) h1 h0 hb).trans (vh H h1 h0 hb j _ ?_)
  split
  ·omega
  ·rw[eO];omega
theorem mQ(H:Idl p I){f g:Nat->Int}(hf:I f)(hg:∀t,g t=0):I g:=
 H.cg (H.mul 0 hf) fun t=>by rw[hg,Int.zero_mul];exact Int.dvd_zero p
theorem G5(Z:List Int)(k:Nat):tk Z (ad (Z.take k))=tk Z k:=funext fun t=>by
 unfold tk;have h:=aj (Z.take k);rw[List.length_take] at h
 by_cases h1:t<ad (Z.take k)
 ·rw[if_pos h1,if_pos (by omega)]
 ·rw[if_neg h1]
  by_cases h2:t<k
  ·rw[if_pos h2]
   have:=az (Z.take k) t (by omega)
   rw[bm _ _ _ h2] at this
   exact this.symm
  ·rw[if_neg h2]
variable {xs:List Int} {i:Nat}
theorem Res.zt{m:Int}(h:Res m xs)(hi:gx xs i≠0):¬m∣gx xs i:=fun hd=>by
 have h1:=h i;have:=Int.le_of_dvd (by omega) hd
 omega
theorem y7(H:Idl p I)(hp:2<=p)(iv:Int->Int)(hiv:∀a,¬p∣a->(a*iv a)%p=1):∀(f:Nat) (A:List Int) (na:Nat) (B:List Int) (nb:Nat),nb<=f->na<=A.length->nb<=B.length->Res p A->Res p B->
  (0<nb->gx B (nb-1)≠0)->((I (tk A na)/\I (tk B nb))<->I (tk (dvs p iv f A na B nb).1 (dvs p iv f A na B nb).2))
 |0,A,na,B,nb,hf,_,_,_,_,_=>by
  obtain rfl:nb=0:=by omega
  rw[dvs];exact⟨fun h=>h.1,fun h=>⟨h,mQ H h fun t=>by unfold tk;rw[if_neg (by omega)]⟩⟩
 |f+1,A,na,B,nb,hf,hA,hB,rA,rB,ht=>by
  rw[dvs];by_cases h0:nb=0
  ·subst h0
   rw[if_pos rfl];exact⟨fun h=>h.1,fun h=>⟨h,mQ H h fun t=>by unfold tk;rw[if_neg (by omega)]⟩⟩
  ·rw[if_neg h0]
   have hinv:=hiv _ (Res.zt rB (ht (by omega)))
   generalize iv (gx B (nb-1))=c at *
   have gB:∀t,gx ((B.take nb).map (· * c%p)) t=tk B nb t*c%p:=fun t=>by
    rw[cE (· * c%p) (by simp)]
    unfold tk;by_cases h:t<nb
    ·rw[if_pos h,bm _ _ _ h]
    ·rw[if_neg h,ak _ nb (by rw[List.length_take];omega) t (by omega)]
   have lB:((B.take nb).map (· * c%p)).length=nb:=by rw[List.length_map,List.length_take];omega
   have rB1:Res p ((B.take nb).map (· * c%p)):=Res.scaled hp;generalize hB1:(B.take nb).map (· * c%p)=B1 at *
   clear hB1;have eI:I (tk B nb)<->I (gx B1):=by
    refine⟨fun h=>H.cg (H.mul c h) fun t=>?_,fun h=>H.cg (H.mul (gx B (nb-1)) h) fun t=>?_⟩
    ·rw[gB,JI c];exact dP p _
    ·rw[gB]
     obtain⟨u,hu⟩:=dP p (tk B nb t*c);obtain⟨v,hv⟩:=dP p (gx B (nb-1)*c);rw[hinv] at hv
     generalize tk B nb t=b at *
     generalize gx B (nb-1)=l at *
     have e1:b*c%p=b*c+p*u:=by omega
     have e2:l*c=1-p*v:=by omega
     refine⟨b*v-l*u,?_⟩;rw[e1,JF];have e3:l*(b*c)=b-p*(b*v):=by rw[JH,e2,Int.mul_sub,Int.mul_one,JH]
     have e4:l*(p*u)=p*(l*u):=by rw[JH]
     rw[e3,e4,Int.mul_sub];omega
   have m1:p∣gx B1 (nb-1)-1:=by
    rw[gB];unfold tk;rw[if_pos (by omega),hinv]
    exact Int.dvd_zero p
   have z1:∀t,nb-1<t->gx B1 t=0:=fun t h=>ak _ nb (by omega) t (by omega)
   have eB:tk B1 nb=gx B1:=funext fun t=>by
    unfold tk;by_cases h:t<nb
    ·rw[if_pos h]
    ·rw[if_neg h,z1 t (by omega)]
   have lR:=ix p B1 (nb-1) (na-(nb-1)) A;have rR:Res p (bX p B1 (nb-1) (na-(nb-1)) A):=Res.bX hp _ rA;have eA:I (gx B1)->(I (tk A na)<->I (tk (bX p B1 (nb-1) (na-(nb-1)) A) (min (nb-1) na))):=fun hb=>by
    rcases Nat.le_total na (nb-1) with h|h
    ·rw[show na-(nb-1)=0 by omega,show min (nb-1) na=na by omega]
     exact Iff.rfl
    ·have:=vh H m1 z1 hb (na-(nb-1)) A (by omega)
     rw[show nb-1+(na-(nb-1))=na by omega] at this
     rw[show min (nb-1) na=nb-1 by omega]
     exact this
   generalize bX p B1 (nb-1) (na-(nb-1)) A=R at *
   have hl:=aj (R.take (min (nb-1) na));rw[List.length_take] at hl
   have ih:=y7 H hp iv hiv f B1 nb R (ad (R.take (min (nb-1) na))) (by omega) (by omega) (by omega) rB1 rR (fun h=>by
    have h2:=aw _ h;rwa [bm _ _ _ (by omega)] at h2)
   rw[G5,eB] at ih
   rw[<-ih,eI];exact⟨fun h=>⟨h.2,(eA h.2).1 h.1⟩,fun h=>⟨(eA h.1).2 h.2,h.1⟩⟩
def Sat(I:(Nat->Int)->Prop):Prop:=∀(c:Int) (f:Nat->Int),c≠0->I (fun t=>c*f t)->I f
def cst(r:Int):Nat->Int:=fun t=>if t=0 then r else 0
theorem Idl.eq{I:(Nat->Int)->Prop}(H:Idl 0 I){f g:Nat->Int}(hf:I f)(h:∀t,g t=f t):I g:=
 H.cg hf fun t=>by rw[h,Int.sub_self];exact Int.dvd_zero 0
def el(b:Nat->Int)(m j:Nat)(f:Nat->Int):Nat->Int:=fun t=>b m*f t-f (m+j)*(if t<j then 0 else b (t-j))
variable {m:Nat}
theorem Ft{b f:Nat->Int}{s u:Nat}(hb:∀t,(b t).natAbs<=2^u)(hf:∀t,(f t).natAbs<=2^s)(t:Nat):(el b m j f t).natAbs<=2^(s+(u+1)):=by
 unfold el;have h1:=Int.natAbs_sub_le (b m*f t) (f (m+j)*(if t<j then 0 else b (t-j)))
 rw[Int.natAbs_mul,Int.natAbs_mul] at h1
 have h2:(if t<j then (0:Int) else b (t-j)).natAbs<=2^u:=by
  split
  ·simp
  ·exact hb _
 have h3:=Nat.mul_le_mul (hb m) (hf t);have h4:=Nat.mul_le_mul (hf (m+j)) h2;rw[<-Nat.add_assoc,Nat.pow_succ,Nat.pow_add];rw[Nat.mul_comm (2^u)] at h3
 omega
theorem BM{b f:Nat->Int}(hb:∀t,m<t->b t=0)(hf:∀t,m+j<t->f t=0)(t:Nat)(ht:m+j<=t):el b m j f t=0:=by
 unfold el;rcases Ju (m+j) t with h|h
 ·rw[hf t h,JC]
  split
  ·rw[JC,Int.sub_zero]
  ·rw[hb _ (by omega),JC,Int.sub_zero]
 ·obtain rfl:t=m+j:=by omega
  rw[if_neg (by omega),JD,JI,Int.sub_self]
theorem Fu{I:(Nat->Int)->Prop}(H:Idl 0 I){b f:Nat->Int}(hb:I b)(hf:I f):I (el b m j f):=
 H.eq (H.add (H.mul (b m) hf) (H.mul (-(f (m+j))) (H.sh j hb))) fun t=>by
  unfold el;rw[Int.neg_mul];omega
theorem BL{I:(Nat->Int)->Prop}(H:Idl 0 I)(hS:Sat I){b f:Nat->Int}(hm:b m≠0)(hb:I b)(hf:I (el b m j f)):I f:=
 hS (b m) f hm (H.eq (H.add hf (H.mul (f (m+j)) (H.sh j hb))) fun t=>by
  unfold el;omega)
theorem elim{b:Nat->Int}{u:Nat}(hm:b m≠0)(hz:∀t,m<t->b t=0)(hb:∀t,(b t).natAbs<=2^u):∀(j s:Nat) (f:Nat->Int),(∀t,m+j<=t->f t=0)->(∀t,(f t).natAbs<=2^s)->
  ∃r:Nat->Int,(∀t,m<=t->r t=0)/\(∀t,(r t).natAbs<=2^(s+j*(u+1)))/\∀I,Idl 0 I->I b->(I f->I r)/\(Sat I->I r->I f)
 |0,s,f,h0,hs=>⟨f,fun t ht=>h0 t (by omega),fun t=>by rw[Nat.zero_mul];exact hs t,fun I _ _=>⟨id,fun _=>id⟩⟩
 |j+1,s,f,h0,hs=>by
  obtain⟨r,h1,h2,h3⟩:=elim hm hz hb j (s+(u+1)) (el b m j f) (fun t ht=>BM hz (fun t ht=>h0 t (by omega)) t ht) (fun t=>Ft hb hs t)
  refine⟨r,h1,fun t=>?_,fun I H hI=>⟨fun hf=>(h3 I H hI).1 (Fu H hI hf),fun hS hr=>BL H hS hm hI ((h3 I H hI).2 hS hr)⟩⟩
  have:=h2 t;rwa [show s+(u+1)+j*(u+1)=s+(j+1)*(u+1) by rw[Nat.add_mul,Nat.one_mul];omega] at this
def mx(g:Nat->Nat):Nat->Nat
 |0=>0
 |k+1=>max (mx g k) (g k)
theorem FC(g:Nat->Nat):∀k i,i<k->g i<=mx g k
 |0,i,h=>absurd h (Nat.not_lt_zero _)
 |k+1,i,h=>by
  rw[mx];rcases Ju i k with h1|h1
  ·have:=FC g k i h1
   omega
  ·obtain rfl:i=k:=by omega
   omega
def Bd:Nat->Nat->Nat->Nat->Nat->Nat
 |0,_,_,_,u=>u
 |f+1,n,m,s,u=>if m=0 then u else mx (fun m1=>Bd f m m1 u (s+(n+1-m)*(u+1))) m
def Cop(a b:Nat->Int):Prop:=∀(d:Nat->Int) (N:Nat),(∀t,N<=t->d t=0)->(∀I,Idl 0 I->Sat I->I d->I a/\I b)->∀t,0<t->d t=0
theorem re{r:Nat->Int}:∀m,(∀t,m<=t->r t=0)->(∀t,r t=0)\/∃k,k<m/\r k≠0/\∀t,k<t->r t=0
 |0,h=>.inl fun t=>h t (Jz _)
 |m+1,h=>by
  by_cases e:r m=0
  ·rcases re m (fun t ht=>by
    rcases Ju m t with h1|h1
    ·exact h t h1
    ·obtain rfl:t=m:=by omega
     exact e) with h1|⟨k,h1,h2⟩
   ·exact .inl h1
   ·exact .inr ⟨k,by omega,h2⟩
  ·exact .inr ⟨m,by omega,e,fun t ht=>h t (by omega)⟩
theorem bez:∀(F n m s u:Nat) (a b:Nat->Int),m<=F->(∀t,n<t->a t=0)->(∀t,m<t->b t=0)->b m≠0->(∀t,(a t).natAbs<=2^s)->(∀t,(b t).natAbs<=2^u)->Cop a b->
  ∃R:Int,R≠0/\R.natAbs<=2^Bd F n m s u/\∀I,Idl 0 I->I a->I b->I (cst R)
 |0,n,m,s,u,a,b,hF,ha,hb,hm,hs,hu,hc=>by
  obtain rfl:m=0:=by omega
  refine⟨b 0,hm,hu 0,fun I H _ h=>H.eq h fun t=>?_⟩
  unfold cst;split
  ·rename_i e;rw[e]
  ·rw[hb t (by omega)]
 |F+1,n,m,s,u,a,b,hF,ha,hb,hm,hs,hu,hc=>by
  by_cases h0:m=0
  ·subst h0
   refine⟨b 0,hm,?_,fun I H _ h=>H.eq h fun t=>?_⟩
   ·rw[Bd,if_pos rfl];exact hu 0
   ·unfold cst
    split
    ·rename_i e;rw[e]
    ·rw[hb t (by omega)]
  ·obtain⟨r,h1,h2,h3⟩:=elim hm hb hu (n+1-m) s a (fun t ht=>ha t (by omega)) hs
   rcases re m h1 with hr|⟨k,hk,hk0,hkz⟩
   ·exfalso
    refine hm (hc b (m+1) (fun t ht=>hb t (by omega)) (fun I H hS hI=>⟨(h3 I H hI).2 hS (mQ H hI hr),hI⟩) m (by omega))
   ·obtain⟨R,r0,r1,r2⟩:=bez F m k u (s+(n+1-m)*(u+1)) b r (by omega) hb hkz hk0 hu h2 (fun d N hN hd=>hc d N hN fun I H hS hI=>by
     obtain⟨i1,i2⟩:=hd I H hS hI;exact⟨(h3 I H i1).2 hS i2,i1⟩)
    refine⟨R,r0,?_,fun I H ia ib=>r2 I H ib ((h3 I H ib).1 ia)⟩
    have hle:Bd F m k u (s+(n+1-m)*(u+1))<=Bd (F+1) n m s u:=by
     rw[Bd,if_neg h0];exact FC (fun m1=>Bd F m m1 u (s+(n+1-m)*(u+1))) m k hk
    exact JA r1 (Nat.pow_le_pow_right (by decide) hle)
end Go.Proofs.YtdjjlghlcffflaaGreatDoor.Md
