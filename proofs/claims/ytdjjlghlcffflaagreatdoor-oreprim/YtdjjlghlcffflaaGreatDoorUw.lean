/- Own. -/
import Derived.Test.YtdjjlghlcffflaaGreatDoorUx
import Derived.Deep.CutRange
import Derived.Test.YtdjjlghlcffflaaGreatDoorFk
set_option linter.unusedVariables false
set_option linter.unusedSimpArgs false
set_option maxHeartbeats 8000000
set_option maxRecDepth 100000
namespace Go.Proofs.YtdjjlghlcffflaaGreatDoor
open Go.RowKit
variable {w:World} {K n nc:Nat} {p:Option Addr} {es:List Ent} {zs:List Int}
theorem tM(h:PA w K p n nc es zs)(hn:n<=100000)(hK:K<=1000)(m:Nat)(hm:m<=1000000):
  Calls Tryz.prog 140 #[.slice p n nc,.int .i64 m] w fun r w'=>r=.returned (.int .i64 ((m+pb zs+Lib.bitLen n:Nat):Int))/\Below w.heap.size w w':=by
 go_enter Tryz.func140,Tryz.ntmps140;go_wp2_with fail;refine(C7 h (by omega) hK).mono ?_
 rintro e w1 ⟨rfl,l1,hb1⟩;have hbl:=bitLen_le n;have vn:IntKind.u64.wrap (n:Int)=(n:Int):=by rw[IntKind.wrap_u64];omega
 have v1:IntKind.i64.wrap ((m:Int)+(pb zs:Int))=(m:Int)+(pb zs:Int):=by rw[IntKind.wrap_i64];omega
 have hle:=FR (n:Int) w1 (by omega) (by omega)
 rw[Int.toNat_natCast] at hle
 go_wp2_with fail;refine hle.mono ?_;rintro e w2 ⟨rfl,rfl⟩;clear hle;have v2:IntKind.i64.wrap ((m:Int)+(pb zs:Int)+(Lib.bitLen n:Int))=(m:Int)+(pb zs:Int)+(Lib.bitLen n:Int):=by rw[IntKind.wrap_i64];omega
 go_wp2;go_ret;exact⟨by push_cast;rfl,hb1⟩
theorem AJ(h:PA w K p n nc es zs)(hn:n<=1000000):pb zs<=32*K:=by
 have:=rE zs (32*K) (fun j hj=>FM (h.ev j (by rw[<-h.zl];exact hj))) zs.length (Jr _)
 rwa [List.take_length] at this
variable {B:Nat} {z:Int} {e:Ent}
theorem zY{o:Obj}(h:NV B w K z e):NV B (w.alloc o) K z e:=h.below ((Jt _ _).alloc (Jr _) o)
variable {v:Value}
theorem vR{U:Nat}{a:Addr}(hU:∀x,e.p=some x->x.block<U)(ha:U<=a.block)(h:NV B w K z e):NV B (w.setCell a v) K z e:=by
 obtain⟨xs,h1,h2⟩:=h;exact⟨xs,Ho hU ha h1,h2⟩
variable {F:Nat}
theorem nQ{a:Addr}(hF:aJ F e.p)(ha:a.block<F)(h:NV B w K z e):NV B (w.setCell a v) K z e:=by
 obtain⟨xs,h1,h2⟩:=h;exact⟨xs,Hp hF ha h1,h2⟩
theorem NV.frm(h:NV B w K z e):aJ B e.p:=by
 obtain⟨xs,h1,-⟩:=h;exact h1.fr
variable {w':World} {g:Nat}
theorem NV.grown(h:NV B w K z e)(hg:w.grownBy w' (some g))(hB:g<B):NV B w' K z e:=by
 obtain⟨xs,h1,h2⟩:=h;exact⟨xs,⟨h1.len,h1.rd.dw hg (gF h1.fr hB),h1.u,h1.nrm,h1.sg,h1.pn,h1.v,h1.fr,h1.fz.kept hg (fun a ha e=>by have:=h1.fr a ha;have:=Option.some.inj e;omega)⟩,h2⟩
theorem Fa{v:World}(h:NV w.drew.heap.size v K z e):NV w.heap.size v K z e:=h
variable {o:Nat}
theorem Ie{a b:World}(h:Below B a b)(hg:B<=g)(u v:Value):Below B a ((b.setCell ⟨g,o,none⟩ u).setCell ⟨g,o+1,none⟩ v):=(h.setCell (p:=⟨g,o,none⟩) hg u).setCell (p:=⟨g,o+1,none⟩) hg v
variable {W w1:World}
theorem G_{row:Option Nat}(h:W.drew.grownBy w1 row):W.grownBy w1 row:=⟨h.os,h.tape,h.output,h.size,h.block⟩
variable {i j k:Nat} {u:Value}
theorem B8{a c l:Nat}{x y:Value}(h:w.cell? ⟨a,i,none⟩=some u/\w.cell? ⟨a,j,none⟩=some v/\w.cell? ⟨c,k,none⟩=some x/\w.cell? ⟨c,l,none⟩=some y)(ha:a<w.heap.size)(hc:c<w.heap.size)(hb:Below w.heap.size w w'):w'.cell? ⟨a,i,none⟩=some u/\w'.cell? ⟨a,j,none⟩=some v/\w'.cell? ⟨c,k,none⟩=some x/\w'.cell? ⟨c,l,none⟩=some y:=
 ⟨cell_later hb h.1,cell_later hb h.2.1,cell_later hb h.2.2.1,cell_later hb h.2.2.2⟩
structure QX(wr wc:World)(g1 g2 K1 K2:Nat)(z r:Int)(c l:Ent):Prop where
 b1:Bx wc g1 (.bool c.s) (.slice c.p c.n c.c)
 b2:Bx wc g2 (.bool l.s) (.slice l.p l.n l.c)
 n1:NV wr.heap.size wc K1 z c
 n2:NV wr.heap.size wc K2 r l
 lo:wr.heap.size<=g1
 bw:Below wr.heap.size wr wc
variable {M:Nat}
theorem EN.fitE(h:EN w K z e)(hz:(z.natAbs:Int)<pw M):EV w M z e:=by
 obtain⟨xs,h1,h2,h3,h4,h5⟩:=h;refine⟨xs,h1,h2,?_⟩;rcases Jw e.n with h0|h0
 ·omega
 ·have:=bV h1.u (by omega)
  rw[h3] at this
  have h6:(z.natAbs:Int)=val xs:=by rw[<-h2,aq];have:=ar h1.u;split<;>omega
  have h7:=xx (a:=e.n-1) (b:=M) (by omega)
  omega
theorem IG(qs ys:List Int)(i m:Nat)(h:ys.length=m+1):ps qs ys (i+1) (m+i)=gx qs i*gx ys m:=by
 rw[ps,oJ qs ys (m+i) i (by omega),if_pos (by omega),JD,Int.zero_add]
def RS(L:Int)(b:List Int)(m K0:Nat)(a:Nat->Int):Nat->Nat->Int
 |0,t=>a t
 |s+1,t=>L*RS L b m K0 a s t-RS L b m K0 a s (K0-s+m)*(if K0-s<=t then gx b (t-(K0-s)) else 0)
def cvf(Q:Nat->Int)(b:List Int):Nat->Nat->Int
 |0,_=>0
 |i+1,t=>cvf Q b i t+(if i<=t then Q i*gx b (t-i) else 0)
theorem F9(L c:Int)(Q:Nat->Int)(b:List Int)(k t:Nat):∀n,cvf (fun i=>L*Q i+(if i=k then c else 0)) b n t=L*cvf Q b n t+(if k<n/\k<=t then c*gx b (t-k) else 0)
 |0=>by simp[cvf]
 |n+1=>by
  rw[cvf,F9 L c Q b k t n,cvf];by_cases h1:n=k
  ·subst h1
   by_cases h2:n<=t
   ·rw[if_neg (by omega),if_pos h2,if_pos rfl,if_pos h2,if_pos (by omega)]
    grind
   ·rw[if_neg (by omega),if_neg h2,if_neg h2,if_neg (by omega)]
    grind
  ·by_cases h2:n<=t
   ·rw[if_pos h2,if_neg h1,if_pos h2]
    by_cases h3:k<n/\k<=t
    ·rw[if_pos h3,if_pos (by omega)];grind
    ·rw[if_neg h3,if_neg (by omega)];grind
   ·rw[if_neg h2,if_neg h2]
    by_cases h3:k<n/\k<=t
    ·rw[if_pos h3,if_pos (by omega)];grind
    ·rw[if_neg h3,if_neg (by omega)];grind
theorem uA{Q R:Nat->Int}(b:List Int)(t:Nat):∀n,(∀i,i<n->Q i=R i)->cvf Q b n t=cvf R b n t
 |0,_=>rfl
 |n+1,h=>by rw[cvf,cvf,uA b t n (fun i hi=>h i (by omega)),h n (by omega)]
theorem sL(q b:List Int)(t:Nat):∀n,ps q b n t=cvf (gx q) b n t
 |0=>rfl
 |n+1=>by rw[ps,cvf,sL q b t n]
theorem iX(q b:List Int)(t n:Nat)(h:∀i,n<=i->gx q i=0):∀m,ps q b (n+m) t=ps q b n t
 |0=>rfl
 |m+1=>by rw[<-Nat.add_assoc,jZ q b _ t (h _ (by omega)),iX q b t n h m]
def Dvd(xs ys:List Int):Prop:=∃q:List Int,∀t,gx xs t=gx (ax q ys) t
variable {a b ys:List Int}
theorem zA{c:List Int}(h:∀j,gx a j=gx b j+gx c j)(t:Nat):∀i,ps a ys i t=ps b ys i t+ps c ys i t
 |0=>rfl
 |i+1=>by
  rw[ps,ps,ps,zA h t i,h];split
  ·rw[Int.add_mul];omega
  ·omega
theorem ow{c:List Int}(h:∀j,gx a j=gx b j+gx c j)(t:Nat):gx (ax a ys) t=gx (ax b ys) t+gx (ax c ys) t:=by
 rw[cI,cI,cI,zA h]
section
variable {p ys:List Int} {m:Nat}
theorem AB(hl:ys.length=m+1)(t:Nat)(ht:m+ad p<=t):gx (ax p ys) t=0:=by
 have h:=iX p ys t (ad p) (fun i hi=>az p i hi) (t+1-ad p)
 rw[cI,<-show ad p+(t+1-ad p)=t+1 by omega,h]
 exact oJ p ys t (ad p) (by omega)
theorem uP(hl:ys.length=m+1)(a:Nat)(ha:ad p=a+1):gx (ax p ys) (m+a)=gx p a*gx ys m:=by
 have h:=iX p ys (m+a) (a+1) (fun i hi=>az p i (by omega)) m
 rw[cI,show m+a+1=a+1+m by omega,h]
 exact IG p ys a m hl
theorem dV{rz:List Int}(hl:ys.length=m+1)(hy:gx ys m≠0)(h:∀t,gx rz t=gx (ax p ys) t):ad rz=0\/∃a,ad p=a+1/\ad rz=m+a+1/\gx rz (m+a)=gx p a*gx ys m:=by
 rcases Jw (ad p) with h0|h0
 ·refine .inl (aX _ 0 (fun j _=>?_) (.inl rfl))
  rw[h,cI];have e:∀i,ps p ys i j=0:=fun i=>by
   induction i with
   |zero=>rfl
   |succ i ih=>rw[jZ p ys i j (az p i (by omega)),ih]
  exact e _
 ·obtain⟨a,ha⟩:∃a,ad p=a+1:=⟨ad p-1,by omega⟩
  have h1:gx rz (m+a)=gx p a*gx ys m:=by rw[h,uP hl a ha]
  refine .inr ⟨a,ha,aX _ _ (fun j hj=>by rw[h,AB hl j (by omega)]) (.inr ?_),h1⟩
  rw[JD,h1];have h2:=aw p h0;rw[ha,JD] at h2
  exact Int.mul_ne_zero h2 hy
end
variable {xs qz rz:List Int}
theorem xL(h:∀t,gx xs t=gx (ax qz ys) t+gx rz t)(hd:Dvd xs ys):Dvd rz ys:=by
 obtain⟨q,hq⟩:=hd;refine⟨pz (· - ·) q qz,fun t=>?_⟩
 have h1:=ow (a:=q) (b:=qz) (c:=pz (· - ·) q qz) (ys:=ys) (fun j=>by rw[dS _ rfl];omega) t
 have h2:=h t;rw[hq t] at h2
 omega
def Hv(n:Nat)(ds:List Int)(m:Int)(w:World)(e:Ending)(w':World):Prop:=
 ∃Q c,e=.returned (.tuple #[.slice (some ⟨w.heap.size,0,none⟩) n n,.int .i64 c])/\Q.length=n/\U16 Q/\0<=c/\c<m/\vd ds=vd Q*m+c/\Row w' w.heap.size 3 .i64 Q/\Below w.heap.size w w'
theorem kK(xs:List Int)(i:Nat)(h:i<xs.length):vd (xs.drop i)=gx xs i+65536*vd (xs.drop (i+1)):=by
 rw[drop_cons xs i h];rfl
theorem sS(p:Option Addr)(n nc:Nat)(ds:List Int)(m:Int)(w:World)(hl:ds.length=n)(hn:n<=1000000)(hX:Rd w p .i64 ds)(hU:U16 ds)(hm0:0<m)(hm1:m<65536):
  Calls Tryz.prog 182 #[.slice p n nc,.int .i64 m] w (Hv n ds m w):=by
 have hmk:=mf n (by omega)
 have HL:Hid (ds.length=n):=hl;clear hl;have hrow:=Row.new w 3 .i64 (au n);have hbel:Below w.heap.size w (w.alloc (.cells (ca .i64 (au n)) 3)):=(Jt _ _).alloc (Jr _) _;have HB:Hid (Row (w.alloc (.cells (ca .i64 (au n)) 3)) w.heap.size 3 .i64 (au n)/\Below w.heap.size w (w.alloc (.cells (ca .i64 (au n)) 3))):=⟨hrow,hbel⟩;clear hrow hbel;have hmz:(m==0)=false:=beq_eq_false_iff_ne.2 (by omega)
 go_enter Tryz.func182,Tryz.ntmps182;go_wp2;generalize w.alloc (.cells (ca .i64 (au n)) 3)=W at *
 go_loopw [7,8] (fun cv iv wr=>∃(t:Nat) (c:Int) (Q:List Int),t<=n/\iv=.int .i64 ((t:Int)-1)/\cv=.int .i64 c/\0<=c/\c<m/\Hid (Q.length=n/\U16 Q/\vd (ds.drop t)=vd (Q.drop t)*m+c/\Row wr w.heap.size 3 .i64 Q/\Below w.heap.size w wr)) (fun _ iv _=>(intOf iv+1).toNat)
 case atStart=>exact⟨n,0,au n,Jr _,by go_num,rfl,by decide,hm0,aZ n,g_ n,by rw[JL (by have:=HL.out;omega),JL (by rw[aZ];omega)];simp[vd],HB.out.1,HB.out.2⟩
 case round=>
  obtain⟨t,c,Q,ht,rfl,rfl,hc0,hc1,H⟩:=hrel;by_cases h0:t=0
  ·subst h0
   go_wp2;go_ret2;obtain⟨h1,h2,h3,h4,h5⟩:=H.out;rw[List.drop_zero,List.drop_zero] at h3
   exact⟨Q,c,rfl,h1,h2,hc0,hc1,h3,h4,h5⟩
  ·obtain⟨i,rfl⟩:∃i,t=i+1:=⟨t-1,by omega⟩
   have ei:((i+1:Nat):Int)-1=(i:Int):=by omega
   rw[ei];clear ei;obtain⟨h1,h2,h3,h4,h5⟩:=H.out;obtain⟨b,off,rfl,hcell⟩:=(hX.below h5) (by have:=HL.out;omega)
   have g1:=hcell i (by have:=HL.out;omega)
   have g2:=h4.cell i (by omega)
   have g3:=h4.frozen i;obtain⟨x0,x1⟩:=hU i;have iI:(i:Int)<(n:Int):=by omega
   have hq0:0<=(c*65536+gx ds i)/m:=Int.ediv_nonneg (by omega) (by omega)
   have hq1:(c*65536+gx ds i)/m<65536:=Int.ediv_lt_of_lt_mul hm0 (by
    have:(c+1)*65536<=m*65536:=Jy (by omega) (by decide)
    omega)
   have hr0:=Int.emod_nonneg (c*65536+gx ds i) (show m≠0 by omega)
   have hr1:=JK (c*65536+gx ds i) hm0;have hrd:=Int.emod_add_mul_ediv (c*65536+gx ds i) m;have HR:Hid ((c*65536+gx ds i)%m+m*((c*65536+gx ds i)/m)=c*65536+gx ds i):=hrd;have q1:(c*65536+gx ds i).tdiv m=(c*65536+gx ds i)/m:=JM (by omega)
   have q2:(c*65536+gx ds i).tmod m=(c*65536+gx ds i)%m:=Int.tmod_eq_emod_of_nonneg (by omega)
   clear h1 h2 h3 h4 h5 hcell hrd;go_wp2;obtain⟨h1,h2,h3,h4,h5⟩:=H.out;refine⟨⟨i,_,Q.set i ((c*65536+gx ds i)/m),by omega,rfl,rfl,hr0,hr1,by rw[List.length_set];exact h1,c5 h2 _ ⟨hq0,hq1⟩,?_,h4.set i _,h5.setCell (p:=⟨w.heap.size,i,none⟩) (Jr _) _⟩,by simp[intOf]⟩
   rw[kK ds i (by have:=HL.out;omega),h3,kK _ i (by rw[List.length_set];omega),bK Q i _ (by omega),List.drop_set_of_lt (by omega),Int.add_mul,JG]
   have e:=HR.out;have e2:(c*65536+gx ds i)/m*m=m*((c*65536+gx ds i)/m):=JI ..;rw[e2];omega
def Hz(n:Nat)(V:Int)(w:World)(e:Ending)(w':World):Prop:=
 ∃R,e=.returned (.slice (some ⟨w.heap.size,0,none⟩) (n+1) (n+1))/\R.length=n+1/\U16 R/\vd R=V/\Row w' w.heap.size 3 .i64 R/\Below w.heap.size w w'
variable {x:Int}
theorem ry{v:Int}(h1:0<=v/\v<65536)(h2:0<=x/\x<=65536):0<=v*x/\v*x<=4294901760:=by
 refine⟨JJ h1.1 h2.1,?_⟩;have a1:v*x<=v*65536:=Jx (by omega) h1.1
 omega
theorem sT(p:Option Addr)(n nc:Nat)(ds:List Int)(m:Int)(w:World)(hl:ds.length=n)(hn:n<=1000000)(hX:Rd w p .i64 ds)(hU:U16 ds)(hm0:0<=m)(hm1:m<=65536):
  Calls Tryz.prog 183 #[.slice p n nc,.int .i64 m] w (Hz n (vd ds*m) w):=by
 have hmk:=mf (n+1) (by omega)
 have ec:((n+1:Nat):Int)=(n:Int)+1:=by omega
 rw[ec] at hmk
 clear ec;have HL:Hid (ds.length=n):=hl;clear hl;have hrow:=Row.new w 3 .i64 (au (n+1));have hbel:Below w.heap.size w (w.alloc (.cells (ca .i64 (au (n+1))) 3)):=(Jt _ _).alloc (Jr _) _;have HB:Hid (Row (w.alloc (.cells (ca .i64 (au (n+1))) 3)) w.heap.size 3 .i64 (au (n+1))/\Below w.heap.size w (w.alloc (.cells (ca .i64 (au (n+1))) 3))):=⟨hrow,hbel⟩;clear hrow hbel;go_enter Tryz.func183,Tryz.ntmps183;go_wp2;generalize w.alloc (.cells (ca .i64 (au (n+1))) 3)=W at *
 go_loopw [6,7] (fun cv iv wr=>∃(k:Nat) (c:Int) (R:List Int),k<=n/\iv=.int .i64 k/\cv=.int .i64 c/\0<=c/\c<65536/\Hid (R.length=n+1/\U16 R/\(∀j,k<=j->gx R j=0)/\vd (R.take k)+pd k*c=vd (ds.take k)*m/\Row wr w.heap.size 3 .i64 R/\Below w.heap.size w wr)) (fun _ iv _=>(n-intOf iv).toNat)
 case atStart=>exact⟨0,0,au (n+1),Jz _,by go_num,rfl,by decide,by decide,aZ _,g_ _,fun j _=>dT _ j,by simp[vd],HB.out.1,HB.out.2⟩
 case round=>
  obtain⟨k,c,R,hk,rfl,rfl,hc0,hc1,H⟩:=hrel;by_cases hkn:k<n
  ·obtain⟨h1,h2,h3,h4,h5,h6⟩:=H.out
   obtain⟨b,off,rfl,hcell⟩:=(hX.below h6) (by have:=HL.out;omega)
   have g1:=hcell k (by have:=HL.out;omega)
   have g2:=h5.cell k (by omega)
   have g3:=h5.frozen k;have hb:=ry (hU k) ⟨hm0,hm1⟩;have hkI:(k:Int)<(n:Int):=by omega
   have hkI2:(k:Int)<(n:Int)+1:=by omega
   have q1:(c+gx ds k*m).tmod 65536=(c+gx ds k*m)%65536:=Int.tmod_eq_emod_of_nonneg (by omega)
   have q2:(c+gx ds k*m).tdiv 65536=(c+gx ds k*m)/65536:=JM (by omega)
   clear h1 h2 h3 h4 h5 h6 hcell;go_wp2;obtain⟨h1,h2,h3,h4,h5,h6⟩:=H.out;refine⟨⟨k+1,_,R.set k ((c+gx ds k*m)%65536),by omega,by go_num,rfl,by omega,by omega,by rw[List.length_set];exact h1,c5 h2 _ (by omega),fun j hj=>?_,?_,h5.set k _,h6.setCell (p:=⟨w.heap.size,k,none⟩) (Jr _) _⟩,by simp[intOf];omega⟩
   ·rw[cl R _ _ _ (by omega)];exact h3 j (by omega)
   ·rw[aG _ k,aG ds k,bK R k _ (by omega),List.take_set_of_le (Jr _),bU,Int.add_mul,<-h4,JG (pd k)]
    have e1:=jM (pd k) (c+gx ds k*m);rw[JF] at e1
    omega
  ·obtain rfl:k=n:=by omega
   obtain⟨h1,h2,h3,h4,h5,h6⟩:=H.out;have g2:=h5.cell k (by omega)
   have g3:=h5.frozen k;have hkI2:(k:Int)<(k:Int)+1:=by omega
   clear h1 h2 h3 h4 h5 h6;go_wp2;go_ret;obtain⟨h1,h2,h3,h4,h5,h6⟩:=H.out;refine⟨R.set k c,rfl,by rw[List.length_set];exact h1,c5 h2 _ ⟨hc0,hc1⟩,?_,h5.set k _,h6.setCell (p:=⟨w.heap.size,k,none⟩) (Jr _) _⟩
   rw[Jv (l:=ds) (by have:=HL.out;omega)] at h4
   have e:=aG (R.set k c) k;rw[Jv (by rw[List.length_set];omega),List.take_set_of_le (Jr _),bK R k c (by omega)] at e
   rw[e,h4]
theorem iG(xs:List Int)(i:Nat):vd (xs.drop i)=gx xs i+65536*vd (xs.drop (i+1)):=by
 by_cases h:i<xs.length
 ·exact kK xs i h
 ·rw[JL (by omega),JL (by omega),ak xs i (by omega) i (Jr _)];rfl
theorem jH(xs:List Int)(i:Nat):vd xs=vd (xs.take i)+pd i*vd (xs.drop i):=by
 by_cases h:i<=xs.length
 ·exact oY xs i h
 ·rw[Jv (by omega),JL (by omega)];simp[vd]
variable {P:Int}
theorem DU{Uk v top low vt vl Q:Int}(hP:0<P)(h1:Uk=top*P+low)(h3:low<P)(h4:v=vt*P+vl)(h5:0<=vl)(h6:0<vt)(hQ:0<=Q)(h:Q*v<=Uk):Q<=top/vt:=by
 apply (Int.le_ediv_iff_mul_le h6).2;have e:Q*v=(Q*vt)*P+Q*vl:=by rw[h4,JF,JG]
 have h7:=JJ hQ h5;have h8:(Q*vt)*P<(top+1)*P:=by rw[Int.add_mul,Int.one_mul];omega
 have h9:=Int.lt_of_mul_lt_mul_right h8 (Int.le_of_lt hP);omega
theorem G6(us:List Int)(k n:Nat)(hn:1<=n)(hz:vd (us.drop (k+n+1))=0):vd (us.drop k)=(gx us (k+n)*65536+gx us (k+n-1))*pd (n-1)+vd ((us.drop k).take (n-1)):=by
 rw[jH (us.drop k) (n-1),List.drop_drop,show k+(n-1)=k+n-1 by omega,iG us (k+n-1),show k+n-1+1=k+n by omega,iG us (k+n),hz,JI (pd (n-1))]
 have:gx us (k+n-1)+65536*(gx us (k+n)+65536*0)=gx us (k+n)*65536+gx us (k+n-1):=by omega
 rw[this];omega
theorem iq{us:List Int}(h:U16 us){v:Int}(h1:vd (us.drop k)<v)(h2:v<=pd n):vd (us.drop (k+n))=0:=by
 have e:=jH (us.drop k) n;rw[List.drop_drop] at e
 have h3:=aI (eH (gJ h k) n);have h4:=aI (gJ h (k+n));rcases(show vd (us.drop (k+n))=0\/1<=vd (us.drop (k+n)) by omega) with h5|h5
 ·exact h5
 ·have:pd n*1<=pd n*vd (us.drop (k+n)):=Jx h5 (Int.le_of_lt (dp n))
  omega
variable {y:Int}
theorem j8(hy:0<y):x/y*y<=x/\x<(x/y+1)*y:=by
 have h1:=Int.emod_add_mul_ediv x y;have h2:=Int.emod_nonneg x (show y≠0 by omega)
 have h3:=JK x hy;rw[JI y] at h1
 rw[Int.add_mul,Int.one_mul];constructor<;>omega
end Go.Proofs.YtdjjlghlcffflaaGreatDoor
