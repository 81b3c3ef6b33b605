/- Own. -/
import Derived.Test.YtdjjlghlcffflaaGreatDoorPl
set_option linter.unusedVariables false
set_option linter.unusedSimpArgs false
set_option maxHeartbeats 8000000
set_option maxRecDepth 100000
namespace Go.Proofs.YtdjjlghlcffflaaGreatDoor.Fk
def sm(f:Nat->Int):Nat->Int
 |0=>0
 |n+1=>sm f n+f n
theorem aR{f g:Nat->Int}:∀n,(∀i,i<n->f i=g i)->sm f n=sm g n
 |0,_=>rfl
 |n+1,h=>by rw[sm,sm,aR n (fun i hi=>h i (by omega)),h n (by omega)]
theorem mu(f g:Nat->Int):∀n,sm (fun i=>f i+g i) n=sm f n+sm g n
 |0=>rfl
 |n+1=>by rw[sm,sm,sm,mu f g n];omega
theorem de(c:Int)(f:Nat->Int):∀n,sm (fun i=>c*f i) n=c*sm f n
 |0=>by simp[sm]
 |n+1=>by rw[sm,sm,de c f n,JF]
theorem jd:∀n,sm (fun _=>0) n=0
 |0=>rfl
 |n+1=>by rw[sm,jd n];rfl
theorem jc{f:Nat->Int}(n:Nat)(h:∀i,i<n->f i=0):sm f n=0:=by rw[aR n h,jd]
theorem fL(f:Nat->Nat->Int)(n:Nat):∀m,sm (fun i=>sm (f i) n) m=sm (fun j=>sm (fun i=>f i j) m) n
 |0=>by rw[sm];exact(jc n (fun i _=>rfl)).symm
 |m+1=>by
  rw[sm,fL f n m,<-mu];exact aR n (fun j _=>rfl)
theorem oU{f:Nat->Int}:∀n,(∀i,i<n->0<=f i)->0<=sm f n
 |0,_=>Int.le_refl _
 |n+1,h=>by
  have h1:=oU n (fun i hi=>h i (by omega))
  have h2:=h n (by omega)
  rw[sm];omega
theorem zN{f g:Nat->Int}:∀n,(∀i,i<n->f i<=g i)->sm f n<=sm g n
 |0,_=>Int.le_refl _
 |n+1,h=>by
  have h1:=zN n (fun i hi=>h i (by omega))
  have h2:=h n (by omega)
  rw[sm,sm];omega
theorem um{f:Nat->Int}(i:Nat):∀n,(∀j,j<n->0<=f j)->i<n->f i<=sm f n
 |0,_,h=>by omega
 |n+1,h,hi=>by
  have h1:=oU n (fun j hj=>h j (by omega))
  have h2:=h n (by omega)
  rw[sm];rcases Ju i n with h3|h3
  ·have:=um i n (fun j hj=>h j (by omega)) h3
   omega
  ·obtain rfl:i=n:=by omega
   omega
theorem gY{f:Nat->Int}(n:Nat):∀m,(∀i,n<=i->i<n+m->f i=0)->sm f (n+m)=sm f n
 |0,_=>rfl
 |m+1,h=>by rw[<-Nat.add_assoc,sm,gY n m (fun i h1 h2=>h i h1 (by omega)),h (n+m) (by omega) (by omega),Int.add_zero]
theorem k9(g:Nat->Int)(c:Nat):∀A,sm (fun k=>if c<=k then g (k-c) else 0) (c+A)=sm g A
 |0=>by rw[Nat.add_zero];exact jc c (fun i hi=>by rw[if_neg (by omega)])
 |A+1=>by rw[<-Nat.add_assoc,sm,k9 g c A,if_pos (by omega),sm,Nat.add_sub_cancel_left]
theorem ER(g:Nat->Int)(c A K:Nat)(h:∀u,g u≠0->u<A/\u+c<K):sm (fun k=>if c<=k then g (k-c) else 0) K=sm g A:=by
 have h1:sm g A=sm g (A+K):=(gY A K (fun i h1 _=>Classical.byContradiction fun h2=>by have:=(h i h2).1;omega)).symm
 have h2:sm (fun k=>if c<=k then g (k-c) else 0) K=sm (fun k=>if c<=k then g (k-c) else 0) (K+(c+A)):=(gY K (c+A) (fun i h1 _=>by
  show(if c<=i then g (i-c) else 0)=0
  split
  ·exact Classical.byContradiction fun h2=>by have:=(h _ h2).2;omega
  ·rfl)).symm
 rw[h1,h2,show K+(c+A)=c+(A+K) by omega,k9]
theorem FH(f:Nat->Int)(n:Nat):sm f n*sm f n=sm (fun i=>sm (fun j=>f i*f j) n) n:=by
 rw[aR n (fun i _=>de (f i) f n)]
 have h:=de (sm f n) f n;rw[<-h];exact aR n (fun i _=>JI _ _)
def fc:Nat->Int
 |0=>1
 |n+1=>(n+1)*fc n
def dsc:Nat->Nat->Int
 |_,0=>1
 |0,_+1=>0
 |n+1,s+1=>(n+1)*dsc n s
def bn:Nat->Nat->Int
 |_,0=>1
 |0,_+1=>0
 |n+1,s+1=>bn n s+bn n (s+1)
theorem fT:∀n,0<fc n
 |0=>by decide
 |n+1=>by rw[fc];exact Int.mul_pos (by omega) (fT n)
theorem lW:∀n s,s<=n->dsc n s*fc (n-s)=fc n
 |n,0,_=>by cases n<;>simp[dsc]
 |0,s+1,h=>by omega
 |n+1,s+1,h=>by rw[dsc,show n+1-(s+1)=n-s by omega,JG,lW n s (by omega),fc]
theorem o9(n:Nat):bn n 0=1:=by cases n<;>rfl
theorem iH:∀n s,n<s->bn n s=0
 |n,0,h=>by omega
 |0,s+1,_=>rfl
 |n+1,s+1,h=>by rw[bn,iH n s (by omega),iH n (s+1) (by omega)];rfl
theorem lX(n:Nat):fc (n+1)=(n+1)*fc n:=rfl
theorem y9:fc 0=1:=rfl
theorem vF:∀n s,s<=n->bn n s*(fc s*fc (n-s))=fc n
 |n,0,_=>by rw[o9];simp[fc]
 |0,s+1,h=>by omega
 |n+1,s+1,h=>by
  rw[bn,show n+1-(s+1)=n-s by omega]
  have h1:=vF n s (by omega)
  rcases Ju s n with h2|h2
  ·have h3:=vF n (s+1) h2
   obtain⟨t,ht⟩:∃t,n-s=t+1:=⟨n-s-1,by omega⟩
   have h4:n-(s+1)=t:=by omega
   have h5:(n:Int)=s+t+1:=by omega
   rw[ht,lX] at h1 ⊢
   rw[h4,lX] at h3
   rw[lX,lX,h5];generalize fc s=a at *
   generalize fc t=b at *
   generalize bn n s=x at *
   generalize bn n (s+1)=y at *
   generalize fc n=z at *
   grind
  ·obtain rfl:s=n:=by omega
   rw[iH s (s+1) (by omega)]
   rw[Nat.sub_self,y9] at h1 ⊢
   rw[lX];generalize fc s=a at *
   generalize bn s s=x at *
   grind
def bp(n:Nat):Nat->Int
 |0=>0
 |s+1=>bn n s
theorem yS(n s:Nat):bn (n+1) s=bn n s+bp n s:=by
 cases s with
 |zero=>rw[o9,o9];rfl
 |succ s=>rw[bn,bp,Int.add_comm]
theorem Fc:∀i j r,sm (fun s=>if s<=r then bn i s*bn j (r-s) else 0) (i+1)=bn (i+j) r
 |0,j,r=>by
  rw[sm,sm,if_pos (Jz _),o9,Nat.sub_zero,Nat.zero_add];omega
 |i+1,j,r=>by
  have h0:sm (fun s=>if s<=r then bn (i+1) s*bn j (r-s) else 0) (i+1+1)=sm (fun s=>if s<=r then bn i s*bn j (r-s) else 0) (i+1+1)+sm (fun s=>if s<=r then bp i s*bn j (r-s) else 0) (i+1+1):=by
   rw[<-mu];refine aR _ (fun s _=>?_)
   by_cases h:s<=r
   ·rw[if_pos h,if_pos h,if_pos h,yS,Int.add_mul]
   ·rw[if_neg h,if_neg h,if_neg h];rfl
  have h1:sm (fun s=>if s<=r then bn i s*bn j (r-s) else 0) (i+1+1)=bn (i+j) r:=by
   rw[sm,Fc i j r,iH i (i+1) (by omega)]
   split<;>omega
  have h2:sm (fun s=>if s<=r then bp i s*bn j (r-s) else 0) (i+1+1)=bp (i+j) r:=by
   have e:∀s,(if s<=r then bp i s*bn j (r-s) else 0)=(if 1<=s then (fun t=>if t+1<=r then bn i t*bn j (r-(t+1)) else 0) (s-1) else 0):=fun s=>by
    cases s with
    |zero=>simp[bp]
    |succ s=>simp[bp]
   rw[aR _ (fun s _=>e s)]
   have e2:=k9 (fun t=>if t+1<=r then bn i t*bn j (r-(t+1)) else 0) 1 (i+1)
   rw[Nat.add_comm] at e2
   rw[e2]
   cases r with
   |zero=>exact jc _ (fun t _=>by rw[if_neg (by omega)])
   |succ r=>
    show _=bn (i+j) r
    rw[<-Fc i j r];refine aR _ (fun t _=>?_)
    by_cases h:t<=r
    ·rw[if_pos (by omega),if_pos h,show r+1-(t+1)=r-t by omega]
    ·rw[if_neg (by omega),if_neg h]
  rw[h0,h1,h2,show i+1+j=(i+j)+1 by omega,yS]
variable {n:Nat}
theorem BH{s:Nat}(h:s<=n):dsc n s=bn n s*fc s:=by
 have h1:=lW n s h;have h2:=vF n s h;have h3:=fT (n-s);have h4:dsc n s*fc (n-s)=bn n s*fc s*fc (n-s):=by rw[h1,<-h2,JG]
 exact Int.eq_of_mul_eq_mul_right (by omega) h4
variable {i j:Nat}
theorem core{i' j' s u e:Nat}(h1:s<=i)(h2:s<=i')(h3:u+(i-s)=j')(h4:u+(i'-s)=j)(h5:s<=e):
  dsc e (e-s)*(fc u*((dsc i s*dsc j' (i-s))*(dsc i' s*dsc j (i'-s))))=fc e*(fc i'*fc j')*(bn i s*bn j (i'-s)):=by
 have a1:=lW e (e-s) (by omega)
 rw[show e-(e-s)=s by omega] at a1
 have a2:=lW j' (i-s) (by omega)
 rw[show j'-(i-s)=u by omega] at a2
 have a3:=lW i' s h2;have a4:=BH (n:=j) (s:=i'-s) (by omega)
 rw[BH h1,a4,<-a1,<-a2,<-a3];generalize dsc e (e-s)=x1;generalize dsc j' (i-s)=x2;generalize dsc i' s=x3;generalize fc u=x4;generalize fc s=x5;generalize fc (i'-s)=x6;generalize bn i s=x7;generalize bn j (i'-s)=x8;grind
section
variable (b q:Nat->Int) (d e:Nat)
def qk(k i:Nat):Int:=if i<=k then q (k-i) else 0
def pr(k:Nat):Int:=sm (fun i=>b i*qk q k i) (e+1)
def rr(s u i:Nat):Int:=if s<=i then (b i*dsc i s)*(q (u+(i-s))*dsc (u+(i-s)) (i-s)) else 0
def tt(i i' s k:Nat):Int:=if s<=i/\s<=i'/\i'+(i-s)<=k then fc (k-(i'+(i-s)))*(rr b q s (k-(i'+(i-s))) i*rr b q s (k-(i'+(i-s))) i') else 0
theorem Jd(hq:∀j,d<j->q j=0)(i i' s:Nat)(hi:i<=e):sm (fun u=>fc u*(rr b q s u i*rr b q s u i')) (d+1)=sm (tt b q i i' s) (d+e+1):=by
 by_cases h1:s<=i/\s<=i'
 ·have h:=ER (fun u=>fc u*(rr b q s u i*rr b q s u i')) (i'+(i-s)) (d+1) (d+e+1) (fun u hu=>by
   have n1:q (u+(i-s))≠0:=fun h0=>hu (by simp only[rr];rw[if_pos h1.1,h0];simp)
   have n2:q (u+(i'-s))≠0:=fun h0=>hu (by simp only[rr];rw[if_pos h1.2,h0];simp)
   have m1:u+(i-s)<=d:=by
    rcases Ju d (u+(i-s)) with h9|h9
    ·exact absurd (hq _ h9) n1
    ·exact h9
   have m2:u+(i'-s)<=d:=by
    rcases Ju d (u+(i'-s)) with h9|h9
    ·exact absurd (hq _ h9) n2
    ·exact h9
   omega)
  rw[<-h];refine aR _ (fun k _=>?_)
  rw[tt];by_cases h2:i'+(i-s)<=k
  ·rw[if_pos h2,if_pos ⟨h1.1,h1.2,h2⟩]
  ·rw[if_neg h2,if_neg (fun h=>h2 h.2.2)]
 ·rw[jc (f:=tt b q i i' s) _ (fun k _=>by rw[tt,if_neg (fun h=>h1 ⟨h.1,h.2.1⟩)])]
  refine jc _ (fun u _=>?_)
  by_cases h2:s<=i
  ·have h3:¬s<=i':=fun h=>h1 ⟨h2,h⟩
   simp only[rr];rw[if_neg h3];simp
  ·simp only[rr]
   rw[if_neg h2];simp
theorem Jc(i i' k:Nat)(hi:i<=e):sm (fun s=>dsc e (e-s)*tt b q i i' s k) (e+1)=fc e*((b i*b i')*(fc k*(qk q k i*qk q k i'))):=by
 by_cases h1:i<=k/\i'<=k
 ·obtain⟨h1,h2⟩:=h1
  have e1:∀s,s<e+1->dsc e (e-s)*tt b q i i' s k=(fc e*(fc i'*fc (k-i'))*((b i*b i')*(q (k-i)*q (k-i'))))*(if s<=i' then bn i s*bn (k-i) (i'-s) else 0):=fun s hs=>by
   rw[tt];by_cases h3:s<=i'
   ·rw[if_pos h3]
    by_cases h4:s<=i
    ·by_cases h5:i'+(i-s)<=k
     ·rw[if_pos ⟨h4,h3,h5⟩]
      have hc:=core (i:=i) (i':=i') (j:=k-i) (j':=k-i') (s:=s) (u:=k-(i'+(i-s))) (e:=e) h4 h3 (by omega) (by omega) (by omega)
      simp only[rr];rw[if_pos h4,if_pos h3,show k-(i'+(i-s))+(i-s)=k-i' by omega,show k-(i'+(i-s))+(i'-s)=k-i by omega]
      generalize fc (k-(i'+(i-s)))=x1 at *
      generalize dsc (k-i') (i-s)=x2 at *
      generalize dsc (k-i) (i'-s)=x3 at *
      generalize dsc i s=x4 at *
      generalize dsc i' s=x5 at *
      generalize dsc e (e-s)=x6 at *
      generalize bn i s*bn (k-i) (i'-s)=x7 at *
      generalize fc e*(fc i'*fc (k-i'))=x8 at *
      generalize q (k-i)=y1;generalize q (k-i')=y2;generalize b i=y3;generalize b i'=y4;have:x6*(x1*(y3*x4*(y2*x2)*(y4*x5*(y1*x3))))=(y3*y4*(y1*y2))*(x6*(x1*(x4*x2*(x5*x3)))):=by grind
      rw[this,hc];grind
     ·rw[if_neg (fun h=>h5 h.2.2),iH (k-i) (i'-s) (by omega)]
      simp
    ·rw[if_neg (fun h=>h4 h.1),iH i s (by omega)]
     simp
   ·rw[if_neg (fun h=>h3 h.2.1),if_neg h3]
    simp
  rw[aR _ e1,de];have e2:sm (fun s=>if s<=i' then bn i s*bn (k-i) (i'-s) else 0) (e+1)=bn k i':=by
   have e3:=gY (f:=fun s=>if s<=i' then bn i s*bn (k-i) (i'-s) else 0) (i+1) (e-i) (fun s h3 _=>by
    show(if s<=i' then bn i s*bn (k-i) (i'-s) else 0)=0
    rw[iH i s (by omega)]
    split<;>simp)
   rw[show i+1+(e-i)=e+1 by omega] at e3
   rw[e3,Fc,show i+(k-i)=k by omega]
  have e4:=vF k i' h2;rw[e2,qk,qk,if_pos h1,if_pos h2];generalize bn k i'=x1 at *
  generalize fc i'=x2 at *
  generalize fc (k-i')=x3 at *
  rw[<-e4];generalize fc e=x4;generalize q (k-i)=y1;generalize q (k-i')=y2;generalize b i=y3;generalize b i'=y4;grind
 ·have e1:qk q k i*qk q k i'=0:=by
   rw[qk,qk];by_cases h2:i<=k
   ·rw[if_neg (fun h=>h1 ⟨h2,h⟩),JC]
   ·rw[if_neg h2,Int.zero_mul]
  rw[e1,JC,JC,JC];refine jc _ (fun s _=>?_)
  rw[tt,if_neg (fun h=>h1 (by omega)),JC]
theorem G3(hq:∀j,d<j->q j=0):fc e*sm (fun k=>fc k*(pr b q e k*pr b q e k)) (d+e+1)=sm (fun s=>dsc e (e-s)*sm (fun u=>fc u*(sm (rr b q s u) (e+1)*sm (rr b q s u) (e+1))) (d+1)) (e+1):=by
 have r1:∀s,dsc e (e-s)*sm (fun u=>fc u*(sm (rr b q s u) (e+1)*sm (rr b q s u) (e+1))) (d+1)=sm (fun i=>sm (fun i'=>sm (fun k=>dsc e (e-s)*tt b q i i' s k) (d+e+1)) (e+1)) (e+1):=fun s=>by
  have r2:sm (fun u=>fc u*(sm (rr b q s u) (e+1)*sm (rr b q s u) (e+1))) (d+1)=sm (fun i=>sm (fun i'=>sm (fun u=>fc u*(rr b q s u i*rr b q s u i')) (d+1)) (e+1)) (e+1):=by
   have r3:∀u,u<d+1->fc u*(sm (rr b q s u) (e+1)*sm (rr b q s u) (e+1))=sm (fun i=>sm (fun i'=>fc u*(rr b q s u i*rr b q s u i')) (e+1)) (e+1):=fun u _=>by
    rw[FH,<-de];exact aR _ (fun i _=>(de _ _ _).symm)
   rw[aR _ r3,fL];exact aR _ (fun i _=>fL _ _ _)
  rw[r2,<-de];refine aR _ (fun i hi=>?_)
  rw[<-de];refine aR _ (fun i' _=>?_)
  rw[Jd b q d e hq i i' s (by omega),<-de]
 rw[aR _ (fun s _=>r1 s),fL]
 have r4:∀i,i<e+1->sm (fun s=>sm (fun i'=>sm (fun k=>dsc e (e-s)*tt b q i i' s k) (d+e+1)) (e+1)) (e+1)=sm (fun i'=>sm (fun k=>fc e*((b i*b i')*(fc k*(qk q k i*qk q k i')))) (d+e+1)) (e+1):=fun i hi=>by
  rw[fL];refine aR _ (fun i' _=>?_)
  rw[fL];exact aR _ (fun k _=>Jc b q e i i' k (by omega))
 rw[aR _ r4];have l1:∀k,k<d+e+1->fc e*(fc k*(pr b q e k*pr b q e k))=sm (fun i=>sm (fun i'=>fc e*((b i*b i')*(fc k*(qk q k i*qk q k i')))) (e+1)) (e+1):=fun k _=>by
  rw[pr,FH,<-JG,<-de];refine aR _ (fun i _=>?_)
  rw[<-de];refine aR _ (fun i' _=>?_)
  grind
 rw[<-de,aR _ l1,fL];exact aR _ (fun i _=>fL _ _ _)
theorem sq_nonneg(x:Int):0<=x*x:=by
 rcases Int.le_total 0 x with h|h
 ·exact JJ h h
 ·have:=JJ (show 0<=-x by omega) (show 0<=-x by omega)
  rwa [Int.neg_mul_neg] at this
theorem sd:∀n s,0<=dsc n s
 |n,0=>by cases n<;>simp[dsc]
 |0,s+1=>Int.le_refl _
 |n+1,s+1=>by rw[dsc];exact JJ (by omega) (sd n s)
theorem Ga(n:Nat):dsc n n=fc n:=by
 have:=lW n n (Jr _);rw[Nat.sub_self,y9,Int.mul_one] at this
 exact this
theorem fock(hq:∀j,d<j->q j=0):fc e*(b e*b e)*sm (fun u=>fc u*(q u*q u)) (d+1)<=sm (fun k=>fc k*(pr b q e k*pr b q e k)) (d+e+1):=by
 have h:=G3 b q d e hq;have hp:=fT e;have h1:=um (f:=fun s=>dsc e (e-s)*sm (fun u=>fc u*(sm (rr b q s u) (e+1)*sm (rr b q s u) (e+1))) (d+1)) e (e+1) (fun s _=>JJ (sd _ _) (oU _ (fun u _=>JJ (Int.le_of_lt (fT u)) (sq_nonneg _)))) (by omega)
 rw[<-h] at h1
 have h2:dsc e (e-e)*sm (fun u=>fc u*(sm (rr b q e u) (e+1)*sm (rr b q e u) (e+1))) (d+1)=fc e*(fc e*(b e*b e)*sm (fun u=>fc u*(q u*q u)) (d+1)):=by
  rw[Nat.sub_self,show dsc e 0=1 by cases e<;>rfl,Int.one_mul,<-de,<-de]
  refine aR _ (fun u _=>?_)
  have h3:sm (rr b q e u) (e+1)=b e*fc e*q u:=by
   rw[sm,jc e (fun i hi=>by rw[rr,if_neg (by omega)]),rr,if_pos (Jr _),Nat.sub_self,Nat.add_zero,Ga,show dsc u 0=1 by cases u<;>rfl]
   grind
  rw[h3];grind
 rw[h2] at h1
 exact Int.le_of_mul_le_mul_left h1 hp
end
def sb:Nat->Int
 |0=>1
 |n+1=>4*sb n+fc (n+1)
theorem FF:∀N,sm (fun k=>fc k*4^(N-k)) (N+1)=sb N
 |0=>by decide
 |N+1=>by
  rw[sm,Nat.sub_self,Int.pow_zero,Int.mul_one,sb,<-FF N,<-de];congr 1;refine aR _ (fun k hk=>?_)
  rw[show N+1-k=(N-k)+1 by omega,Int.pow_succ]
  grind
theorem s8(n:Nat):(2:Int)^n*2^n=4^n:=by rw[<-Int.mul_pow];rfl
variable {x:Int}
theorem Jm{A:Int}(h1:-A<=x)(h2:x<=A):x*x<=A*A:=by
 have h3:0<=(A-x)*(A+x):=JJ (by omega) (by omega)
 have h4:(A-x)*(A+x)=A*A-x*x:=by grind
 omega
theorem BR{b q:Nat->Int}{d e:Nat}{A:Int}(hq:∀j,d<j->q j=0)(hb:b e≠0)(hA:∀k,k<=d+e->-A<=pr b q e k/\pr b q e k<=A)(j:Nat)(hj:j<=d):fc e*(fc j*(4^(d-j)*(q j*q j)))<=sb (d+e)*(A*A):=by
 have h:=fock (fun i=>2^(e-i)*b i) (fun j=>2^(d-j)*q j) d e (fun j hj=>by rw[hq j hj];simp)
 have hp:∀k,k<d+e+1->pr (fun i=>2^(e-i)*b i) (fun j=>2^(d-j)*q j) e k=2^(d+e-k)*pr b q e k:=fun k hk=>by
  rw[pr,pr,<-de];refine aR _ (fun i hi=>?_)
  rw[qk,qk];by_cases h1:i<=k
  ·rw[if_pos h1,if_pos h1]
   rcases Ju d (k-i) with h2|h2
   ·rw[hq _ h2];simp
   ·have e1:(2:Int)^(d+e-k)=2^(e-i)*2^(d-(k-i)):=by rw[<-Int.pow_add];congr 1;omega
    rw[e1];grind
  ·rw[if_neg h1,if_neg h1];simp
 have hr:sm (fun k=>fc k*(pr (fun i=>2^(e-i)*b i) (fun j=>2^(d-j)*q j) e k*pr (fun i=>2^(e-i)*b i) (fun j=>2^(d-j)*q j) e k)) (d+e+1)<=sb (d+e)*(A*A):=by
  rw[<-FF,JI,<-de];refine zN _ (fun k hk=>?_)
  rw[hp k hk];obtain⟨a1,a2⟩:=hA k (by omega)
  have h1:=Jm a1 a2;have h2:(2:Int)^(d+e-k)*pr b q e k*(2^(d+e-k)*pr b q e k)=4^(d+e-k)*(pr b q e k*pr b q e k):=by rw[<-s8];grind
  rw[h2];have h3:=fT k;have h4:(0:Int)<4^(d+e-k):=Int.pow_pos (by decide)
  have h5:=Jx h1 (Int.le_of_lt (Int.mul_pos h3 h4));generalize (4:Int)^(d+e-k)=x at *
  generalize pr b q e k*pr b q e k=y at *
  generalize A*A=z at *
  generalize fc k=v at *
  have e1:v*(x*y)=v*x*y:=by grind
  have e2:z*(v*x)=v*x*z:=by grind
  rw[e1,e2];exact h5
 refine Int.le_trans ?_ hr;refine Int.le_trans ?_ h;have h1:=um (f:=fun u=>fc u*((2^(d-u)*q u)*(2^(d-u)*q u))) j (d+1) (fun u _=>JJ (Int.le_of_lt (fT u)) (sq_nonneg _)) (by omega)
 have h2:fc j*((2^(d-j)*q j)*(2^(d-j)*q j))=fc j*(4^(d-j)*(q j*q j)):=by rw[<-s8];grind
 rw[h2] at h1
 have h3:(1:Int)<=(2^(e-e)*b e)*(2^(e-e)*b e):=by
  rw[Nat.sub_self,Int.pow_zero,Int.one_mul];have h4:=sq_nonneg (b e);have h5:b e*b e≠0:=Int.mul_ne_zero hb hb;omega
 have h4:=fT e;have h5:0<=fc j*(4^(d-j)*(q j*q j)):=JJ (Int.le_of_lt (fT j)) (JJ (Int.le_of_lt (Int.pow_pos (by decide))) (sq_nonneg _))
 have h6:fc e*(fc j*(4^(d-j)*(q j*q j)))<=fc e*((2^(e-e)*b e)*(2^(e-e)*b e))*(fc j*(4^(d-j)*(q j*q j))):=by
  have h7:=Jy h3 (JJ (Int.le_of_lt h4) h5);generalize (2^(e-e)*b e)*(2^(e-e)*b e)=x at *
  generalize fc j*(4^(d-j)*(q j*q j))=y at *
  generalize fc e=z at *
  have e1:z*x*y=x*(z*y):=by grind
  rw[e1];rw[Int.one_mul] at h7
  exact h7
 exact Int.le_trans h6 (Jx h1 (JJ (Int.le_of_lt h4) (by omega)))
def chk(d e j:Nat):Bool:=decide (sb (d+e)<=fc e*(fc j*(4^(d-j)*(4^(d+1)*((d+e+2:Nat)*(d+e+2:Nat))))))
theorem F6:∀d,d<13->∀e,e<13->∀j,j<d+1->chk d e j=true:=by decide +kernel
theorem BQ{b q:Nat->Int}{d e c:Nat}{A:Int}(hd:d<13)(he:e<13)(hq:∀j,d<j->q j=0)(hb:b e≠0)(hA0:0<=A)(hA:∀k,k<=d+e->-A<=pr b q e k/\pr b q e k<=A)(hc:((d+e+1:Nat):Int)<2^c)(j:Nat)(hj:j<=d):((q j).natAbs:Int)<=2^(d+1+c)*A:=by
 have h1:=BR hq hb hA j hj;have h2:=F6 d hd e he j (by omega)
 have h3:sb (d+e)<=fc e*(fc j*(4^(d-j)*(4^(d+1)*((d+e+2:Nat)*(d+e+2:Nat))))):=of_decide_eq_true h2;have h4:((d+e+2:Nat):Int)*(d+e+2:Nat)<=4^c:=by
  rw[<-s8];exact Int.mul_le_mul (by omega) (by omega) (by omega) (Int.le_of_lt (Int.pow_pos (by decide)))
 have p1:=fT e;have p2:=fT j;have p3:(0:Int)<4^(d-j):=Int.pow_pos (by decide)
 have p4:(0:Int)<4^(d+1):=Int.pow_pos (by decide)
 have pW:0<fc e*(fc j*4^(d-j)):=Int.mul_pos p1 (Int.mul_pos p2 p3);have h5:fc e*(fc j*4^(d-j))*(q j*q j)<=fc e*(fc j*4^(d-j))*(4^(d+1)*4^c*(A*A)):=by
  have g1:sb (d+e)*(A*A)<=fc e*(fc j*4^(d-j))*(4^(d+1)*4^c)*(A*A):=by
   refine Jy (Int.le_trans h3 ?_) (sq_nonneg A);have g2:=Jx h4 (Int.le_of_lt (Int.mul_pos pW p4));generalize ((d+e+2:Nat):Int)*(d+e+2:Nat)=x at *
   generalize (4:Int)^c=y at *
   generalize (4:Int)^(d+1)=z at *
   generalize (4:Int)^(d-j)=v at *
   have e1:fc e*(fc j*(v*(z*x)))=fc e*(fc j*v)*z*x:=by grind
   have e2:fc e*(fc j*v)*(z*y)=fc e*(fc j*v)*z*y:=by grind
   rw[e1,e2];exact g2
  have e1:fc e*(fc j*(4^(d-j)*(q j*q j)))=fc e*(fc j*4^(d-j))*(q j*q j):=by grind
  rw[e1] at h1
  have e2:fc e*(fc j*4^(d-j))*(4^(d+1)*4^c)*(A*A)=fc e*(fc j*4^(d-j))*(4^(d+1)*4^c*(A*A)):=by grind
  rw[e2] at g1
  exact Int.le_trans h1 g1
 have h6:=Int.le_of_mul_le_mul_left h5 pW;have e3:(4:Int)^(d+1)*4^c*(A*A)=(2^(d+1+c)*A)*(2^(d+1+c)*A):=by
  rw[<-Int.pow_add,<-s8];grind
 rw[e3] at h6
 have h7:0<=2^(d+1+c)*A:=JJ (Int.le_of_lt (Int.pow_pos (by decide))) hA0
 generalize 2^(d+1+c)*A=T at *
 rcases Int.lt_or_le T ((q j).natAbs:Int) with h8|h8
 ·exfalso
  have h9:((q j).natAbs:Int)*((q j).natAbs:Int)=q j*q j:=by rw[<-Int.natCast_mul,Int.natAbs_mul_self]
  have h10:T*T<((q j).natAbs:Int)*((q j).natAbs:Int):=Int.lt_of_le_of_lt (Jx (Int.le_of_lt h8) h7) (Int.mul_lt_mul_of_pos_right h8 (Int.lt_of_le_of_lt h7 h8));omega
 ·exact h8
end Go.Proofs.YtdjjlghlcffflaaGreatDoor.Fk
