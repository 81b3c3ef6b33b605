/- Own. -/
import Derived.Test.YtdjjlghlcffflaaGreatDoorUw
set_option linter.unusedVariables false
set_option linter.unusedSimpArgs false
set_option maxHeartbeats 8000000
set_option maxRecDepth 100000
namespace Go.Proofs.YtdjjlghlcffflaaGreatDoor
open Go.RowKit
theorem wE(a b:Value)(w:World):(Instr.field 65 (.agg #[a,b]) 1).run Tryz.prog w=.ok b w:=by kernel_rfl
structure Rdv(w wr:World)(gu gq gv n K t:Nat)(u q v0:List Int)(U0 V:Int):Prop where
 lu:u.length=K+(n+1)
 uu:U16 u
 lq:q.length=K
 uq:U16 q
 ru:Row wr gu 3 .i64 u
 rq:Row wr gq 3 .i64 q
 rv:Row wr gv 3 .i64 v0
 lv:n+1<=v0.length
 uv:U16 v0
 vV:vd (v0.take (n+1))=V
 vt:0<gx v0 n
 n1:gu≠gq
 n2:gu≠gv
 n3:gq≠gv
 b1:w.heap.size<=gu
 b2:w.heap.size<=gq
 b3:w.heap.size<=gv
 hi:vd (u.drop t)<V
 eq:U0=vd u+V*(pd t*vd (q.drop t))
 bl:Below w.heap.size w wr
variable {w wr:World} {gu gq gv n K:Nat} {v0:List Int} {U0 V:Int}
theorem Rdv.pos{t:Nat}{u q:List Int}(h:Rdv w wr gu gq gv n K t u q v0 U0 V):0<V/\V<=pd (n+1)/\V=gx v0 n*pd n+vd (v0.take n)/\0<=vd (v0.take n):=by
 have e:=aG v0 n;have h1:=gg (eH h.uv (n+1));have h2:=aI (eH h.uv n);have h3:pd (v0.take (n+1)).length<=pd (n+1):=dg (List.length_take_le _ _);have h4:pd n*1<=pd n*gx v0 n:=Jx (by have:=h.vt;omega) (Int.le_of_lt (dp n))
 have h5:=dp n;have h6:=h.vV;rw[JI] at e
 rw[JI (pd n) (gx v0 n)] at h4
 exact⟨by omega,by omega,by omega,h2⟩
theorem Rdv.later{wr':World}{t:Nat}{u q:List Int}(h:Rdv w wr gu gq gv n K t u q v0 U0 V)(hb:Below wr.heap.size wr wr'):Rdv w wr' gu gq gv n K t u q v0 U0 V:=
 ⟨h.lu,h.uu,h.lq,h.uq,h.ru.below hb h.ru.lt,h.rq.below hb h.rq.lt,h.rv.below hb h.rv.lt,h.lv,h.uv,h.vV,h.vt,h.n1,h.n2,h.n3,h.b1,h.b2,h.b3,h.hi,h.eq,bh h.bl (Jr _) hb⟩
def o6(p:Option Addr)(a b:Int)(N:Nat)(w:World)(e:Ending)(w':World):Prop:=
 ∃qa qn qc qs ra rn rc rs,e=.returned (.tuple #[.slice qa qn qc,.slice ra rn rc])/\Rd w' qa .i64 qs/\U16 qs/\qs.length=qn/\qn<=qc/\qc<=maxLen/\qn<=N/\Rd w' ra .i64 rs/\U16 rs/\rs.length=rn/\rn<=rc/\rc<=maxLen/\rn<=N/\vd qs*b+vd rs=a/\vd rs<b/\Below w.heap.size w w'/\aJ w.heap.size qa/\(ra=p\/aJ w.heap.size ra)
theorem vD{l:List Int}(h:U16 l)(h1:pd n<=vd l)(h2:vd l<pd (n+1)):ad l=n+1:=by
 have e1:=te h;have e2:=dp n;rcases Nat.lt_trichotomy (ad l) (n+1) with h3|h3|h3
 ·have:=dg (show ad l<=n by omega);omega
 ·exact h3
 ·have e3:=db h (by omega)
  have:=dg (show n+1<=ad l-1 by omega);omega
variable {sc:Int}
theorem CW{es:List Int}(hV:U16 es)(hl:es.length=n+1)(ht:ad es=n+1)(h1:1<=sc)(h2:sc*(gx es n+1)<=65536):pd n<=vd es/\pd n<=vd es*sc/\vd es*sc<pd (n+1):=by
 have e1:=db hV (by omega)
 rw[ht,JD] at e1
 have e2:=aG es n;rw[Jv (by omega)] at e2
 have e3:=gg (eH hV n);rw[List.length_take,Nat.min_eq_left (by omega)] at e3
 have e0:=dp n;have e4:vd es*1<=vd es*sc:=Jx h1 (by omega)
 have e5:vd es<(gx es n+1)*pd n:=by rw[Int.add_mul,Int.one_mul,JI];omega
 have e6:vd es*sc<(gx es n+1)*pd n*sc:=Int.mul_lt_mul_of_pos_right e5 (by omega)
 have e7:(gx es n+1)*pd n*sc=sc*(gx es n+1)*pd n:=by grind
 have e8:sc*(gx es n+1)*pd n<=65536*pd n:=Jy h2 (by omega)
 rw[bU];exact⟨e1,by omega,by omega⟩
variable {ds:List Int} {m:Nat}
theorem ET{U:List Int}{vb:Int}(hU:U16 U)(hds:U16 ds)(hl:ds.length=m)(hm:K+n=m)(hs:1<=sc)(e:vd U=vd ds*sc)(hb:pd n<=vb):vd (U.drop K)<vb*sc:=by
 have e1:=jH U K;have e2:=aI (eH hU K);have e3:=gg hds;rw[hl,<-hm,sG] at e3
 have e4:vd ds*sc<pd K*pd n*sc:=Int.mul_lt_mul_of_pos_right e3 (by omega)
 have e5:pd K*pd n*sc=pd K*(pd n*sc):=JG ..;have e6:pd K*vd (U.drop K)<pd K*(pd n*sc):=by omega
 have e7:=Int.lt_of_mul_lt_mul_left e6 (Int.le_of_lt (dp K));have e8:pd n*sc<=vb*sc:=Jy hb (by omega)
 omega
variable {ws vs:List Int} {i:Nat} {c x d:Int}
theorem mJ{us:List Int}{g bo c' b' v:Int}(hw:i<ws.length)(ih:vd (ws.take i)=vd (us.take i)-g*vd (vs.take i)+pd i*(c+bo))(hv:v=gx vs i)(hT:c+v*g=d+65536*c')(hx:x=gx us i-d-bo+65536*b'):
  vd ((ws.set i x).take (i+1))=vd (us.take (i+1))-g*vd (vs.take (i+1))+pd (i+1)*(c'+b'):=by
 rw[aG _ i,aG us i,aG vs i,bK ws i x hw,List.take_set_of_le (Jr _),ih,bU,<-hv,hx];have e:c=d+65536*c'-v*g:=by omega
 rw[e];grind
theorem mI{us:List Int}{g bo b':Int}(hw:i<ws.length)(hvl:vs.length<=i)(ih:vd (ws.take i)=vd (us.take i)-g*vd (vs.take i)+pd i*(c+bo))(hx:x=gx us i-c-bo+65536*b'):
  vd ((ws.set i x).take (i+1))=vd (us.take (i+1))-g*vd (vs.take (i+1))+pd (i+1)*(0+b'):=by
 have h0:gx vs i=0:=ak vs i hvl i (Jr _);rw[aG _ i,aG us i,aG vs i,bK ws i x hw,List.take_set_of_le (Jr _),ih,bU,h0,hx];grind
variable {U:Int}
theorem BN{a b q R:Int}(hs:1<=sc)(h0:0<=c)(h1:c<sc)(e1:a*sc=U+b*sc*q)(e2:U=R*sc+c)(hlt:U<b*sc):q*b+R=a/\R<b:=by
 have e3:c=sc*(a-q*b-R):=by
  have:a*sc=R*sc+c+b*sc*q:=by omega
  grind
 have e4:a-q*b-R=0:=by
  generalize a-q*b-R=z at *
  rcases Int.lt_trichotomy z 0 with h|h|h
  ·have:sc*z<=sc*(-1):=Jx (by omega) (by omega)
   omega
  ·exact h
  ·have:sc*1<=sc*z:=Jx (by omega) (by omega)
   omega
 rw[e4] at e3
 refine⟨by omega,?_⟩
 have:R*sc<b*sc:=by omega
 exact Int.lt_of_mul_lt_mul_right this (by omega)
variable {k:Nat}
theorem Rdv.next{wr':World}{u q u':List Int}{g:Int}(h:Rdv w wr gu gq gv n K (k+1) u q v0 U0 V)(hk:k<K)(hl:u'.length=u.length)(hu:U16 u')(hw:ws.length=n+1+1)
  (hg:∀j,gx u' j=if k<=j/\j<k+(n+1+1) then gx ws (j-k) else gx u j) (hv:vd ws=vd (u.drop k)-g*V) (hlt:vd ws<V) (g0:0<=g) (g1:g<65536)
  (ru:Row wr' gu 3 .i64 u') (rq:Row wr' gq 3 .i64 (q.set k g)) (rv:Row wr' gv 3 .i64 v0) (bl:Below w.heap.size w wr'):Rdv w wr' gu gq gv n K k u' (q.set k g) v0 U0 V:=by
 obtain⟨hp,hp2,_⟩:=h.pos;have hz:=iq h.uu (k:=k+1) (n:=n+1) h.hi hp2;have hlu:=h.lu;have e1:u'.take k=u.take k:=dm _ _ (by simp;omega) fun j hj=>by
  have hj':j<k:=by simp at hj;omega
  rw[bm _ _ _ hj',bm _ _ _ hj',hg j,if_neg (by omega)]
 have e2:(u'.drop k).take (n+1+1)=ws:=dm _ _ (by simp;omega) fun j hj=>by
  have hj':j<n+1+1:=by simp at hj;omega
  rw[bm _ _ _ hj',bC,hg,if_pos (by omega)]
  congr 1;omega
 have e3:u'.drop (k+(n+1+1))=u.drop (k+(n+1+1)):=dm _ _ (by simp;omega) fun j hj=>by
  rw[bC,bC,hg,if_neg (by omega)]
 have e4:vd (u'.drop k)=vd ws:=by
  rw[jH (u'.drop k) (n+1+1),e2,List.drop_drop,e3,show k+(n+1+1)=k+1+(n+1) by omega,hz];omega
 refine⟨by rw[hl];exact h.lu,hu,by rw[List.length_set];exact h.lq,c5 h.uq _ ⟨g0,g1⟩,ru,rq,rv,h.lv,h.uv,h.vV,h.vt,h.n1,h.n2,h.n3,h.b1,h.b2,h.b3,by rw[e4];exact hlt,?_,bl⟩
 have hq:vd ((q.set k g).drop k)=g+65536*vd (q.drop (k+1)):=by
  rw[iG,bK q k g (by rw[h.lq];exact hk),List.drop_set_of_lt (by omega)]
 rw[h.eq,jH u k,jH u' k,e1,e4,hv,hq,bU];grind
theorem xI(p q:Option Addr)(m mc n nc:Nat)(ds es:List Int)(w:World)(hla:ds.length=m)(hm:m<=1000)(hX:Rd w p .i64 ds)(hU:U16 ds)(hta:ad ds=m)
  (hlb:es.length=n+1) (hn:1<=n) (hY:Rd w q .i64 es) (hV:U16 es) (htb:ad es=n+1) (hle:vd es<=vd ds):
  Calls Tryz.prog 146 #[.slice p m mc,.slice q (n+1) nc] w (o6 p (vd ds) (vd es) (m+2) w):=by
 have hnm:n+1<=m:=by
  rcases Ju m (n+1) with h|h
  ·have:=ic hU hV (by omega);omega
  ·exact h
 have htop:0<gx es n:=by
  have h1:=aw es (by omega)
  rw[htb,JD] at h1
  have h2:=hV n;omega
 obtain⟨t0,t1⟩:=hV n;obtain⟨sc,hsc⟩:∃sc:Int,sc=65536/(gx es n+1):=⟨_,rfl⟩;have hs0:1<=sc:=by rw[hsc];exact(Int.le_ediv_iff_mul_le (by omega)).2 (by omega)
 have hs1:sc<=32768:=by
  have:sc<32769:=by rw[hsc];exact Int.ediv_lt_of_lt_mul (by omega) (by omega)
  omega
 have hs2:sc*(gx es n+1)<=65536:=by
  have:=(j8 (x:=65536) (y:=gx es n+1) (by omega)).1
  rw[<-hsc] at this;exact this
 have hsq:(65536:Int).tdiv (gx es n+1)=sc:=by rw[JM (by omega),hsc]
 have hsq':65536/(gx es n+1)=sc:=hsc.symm;have HSC:Hid (sc*(gx es n+1)<=65536):=hs2;clear hsc hs2;have hic:¬bQ (vd ds) (vd es)<0:=by rw[bQ,if_neg (by omega)];split<;>decide
 have hn1:((n:Int)+1==1)=false:=beq_eq_false_iff_ne.2 (by omega)
 have hz:(gx es n+1==0)=false:=beq_eq_false_iff_ne.2 (by omega)
 go_enter Tryz.func146,Tryz.ntmps146;go_wp2_with fail;refine(kA p q m mc (n+1) nc ds es _ hla hlb (by omega) (by omega) hta htb hX hU hY hV).mono ?_
 rintro e w1 ⟨rfl,hb1⟩;have hX1:=hX.below hb1;have hY1:=hY.below hb1;obtain⟨b,off,rfl,hcell⟩:=hY1 (by omega)
 have hc:=hcell n (by omega)
 clear hcell;go_wp2_with fail;refine(sT p m mc ds sc _ hla (by omega) hX1 hU (by omega) (by omega)).mono ?_
 rintro e w2 ⟨U,rfl,u1,u2,u3,u4,hb2⟩;go_wp2_with fail;refine(sT (some ⟨b,off,none⟩) (n+1) nc es sc _ hlb (by omega) (hY1.below hb2) hV (by omega) (by omega)).mono ?_
 rintro e w3 ⟨Vr,rfl,v1,v2,v3,v4,hb3⟩;go_wp2_with fail;refine(bI false (some ⟨w2.heap.size,0,none⟩) (n+1+1) (n+1+1) Vr _ v1 (Jr _) (by unfold maxLen;omega) v4.a8).mono ?_
 rintro e w4 ⟨rfl,hb4⟩;obtain⟨x1,x2,x3⟩:=CW hV hlb htb hs0 HSC.out;have htv:ad Vr=n+1:=vD v2 (by omega) (by omega)
 rw[htv];have hfd:=wE (.bool (nsg false Vr)) (.slice (some ⟨w2.heap.size,0,none⟩) (n+1) (n+1));obtain⟨K,hK⟩:∃K,K+n=m:=⟨m-n,by omega⟩
 have hmk:=mf K (by omega)
 have ec:((K:Nat):Int)=(m:Int)-(n:Int):=by omega
 have ec2:((K:Nat):Int)=(m:Int)+1-((n:Int)+1):=by omega
 have hmk2:=hmk;rw[ec] at hmk
 rw[ec2] at hmk2
 have hru:=(u4.below hb3 (by have:=u4.lt;omega)).below hb4 (by have:=u4.lt;have:=hb3.size;omega)
 have hrv:=v4.below hb4 v4.lt;have hb14:Below w.heap.size w w4:=bh (bh (bh hb1 (Jr _) hb2) (Jr _) hb3) (Jr _) hb4;have hlt1:=u4.lt;have hlt2:=v4.lt;have hs3:=hb3.size;have hs4:=hb4.size;have hs1':=hb1.size;have htake:vd (Vr.take (n+1))=vd es*sc:=by
  rw[<-htv];exact(lg Vr).trans v3
 have hst:Rdv w (w4.alloc (.cells (ca .i64 (au K)) 3)) w1.heap.size w4.heap.size w2.heap.size n K K U (au K) Vr (vd ds*sc) (vd es*sc):=
  ⟨by omega,u2,aZ K,g_ K,hru.alloc _,Row.new w4 _ _ _,hrv.alloc _,by omega,v2,htake,by
   have h1:=aw Vr (by omega)
   rw[htv,JD] at h1
   have:=v2 n;omega,by omega,by omega,by omega,hs1',by have:=hb14.size;omega,by have:=hb2.size;omega,ET u2 hU hla hK hs0 u3 x1,by rw[JL (by rw[aZ];omega),u3];simp[vd],hb14.alloc hb14.size _⟩
 have HST:Hid (Rdv w (w4.alloc (.cells (ca .i64 (au K)) 3)) w1.heap.size w4.heap.size w2.heap.size n K K U (au K) Vr (vd ds*sc) (vd es*sc)):=hst;have HK:Hid (K+n=m/\ds.length=m/\es.length=n+1):=⟨hK,hla,hlb⟩;have hKI:(m:Int)-(n:Int)-1=(K:Int)-1:=by omega
 have hKI2:(m:Int)+1-((n:Int)+1)-1=(K:Int)-1:=by omega
 have hKn:K<=1000:=by omega
 clear hb1 hb2 hb3 hb4 u1 u2 u3 u4 v1 v2 v3 v4 x1 x2 x3 htv hK ec ec2 hru hrv hb14 hlt1 hlt2 hs3 hs4 hs1' htake hst hla hlb hta htb hX hY hX1 hY1 hc;go_wp2;have HSCI:Hid ((65536:Int)/(gx es n+1)=sc):=hsq';generalize (w4.alloc (.cells (ca .i64 (au K)) 3))=W at *
 generalize w1.heap.size=gu at *
 generalize w4.heap.size=gq at *
 generalize w2.heap.size=gv at *
 clear hmk hmk2 hfd hsq hsq' hz hn1 hic hKI hKI2;go_loopw [13] (fun kv wr=>∃(t:Nat) (u qs:List Int),t<=K/\kv=.int .i64 ((t:Int)-1)/\Hid (Rdv w wr gu gq gv n K t u qs Vr (vd ds*sc) (vd es*sc))) (fun kv _=>(intOf kv+1).toNat)
 case atStart=>exact⟨K,U,au K,Jr _,rfl,HST.out⟩
 case round=>
  obtain⟨t,u,qs,ht,rfl,H⟩:=hrel;by_cases h0:t=0
  ·subst h0
   have hD:=H.out;have hlu:=hD.lu;have htlu:=aj u;have hmK:m+1=K+(n+1):=by have:=HK.out;omega
   have hrd:=hD.ru.a8;have HH:Hid (u.length=m+1/\Rd wr (some ⟨gu,0,none⟩) .i64 u):=⟨by omega,hrd⟩
   clear hD hlu hrd hmK htlu;go_wp2_with fail;refine(bI false (some ⟨gu,0,none⟩) (m+1) (m+1) u _ HH.out.1 (Jr _) (by unfold maxLen;omega) HH.out.2).mono ?_
   rintro e w5 ⟨rfl,hb5⟩;have hfd:=wE (.bool (nsg false u)) (.slice (some ⟨gu,0,none⟩) (ad u) (ad u));have htl:ad u<=m+1:=by have:=HH.out.1;have:=aj u;omega
   have HR5:Hid (Rdv w w5 gu gq gv n K 0 u qs Vr (vd ds*sc) (vd es*sc)):=H.out.later hb5;have HB5:Hid (w.heap.size<=w5.heap.size):=HR5.out.bl.size;clear hb5;go_wp2_with fail;refine(sS (some ⟨gu,0,none⟩) (ad u) (ad u) (tr u) sc _ (af u) (by omega) HR5.out.ru.a8.tr (mz HR5.out.uu) (by omega) (by omega)).mono ?_
   rintro e w6 ⟨R,c,rfl,r1,r2,r3,r4,r5,r6,r7⟩;have HR6:Hid (Rdv w w6 gu gq gv n K 0 u qs Vr (vd ds*sc) (vd es*sc)):=HR5.out.later r7;have HR:Hid (R.length=ad u/\U16 R/\vd (tr u)=vd R*sc+c/\Row w6 w5.heap.size 3 .i64 R):=⟨r1,r2,r5,r6⟩;clear r1 r2 r5 r6 r7 hfd;go_wp2;go_ret2;obtain⟨r1,r2,r5,r6⟩:=HR.out;have hD:=HR6.out;have e1:=hD.eq;rw[mj,Int.one_mul,List.drop_zero] at e1
   rw[lg] at r5
   have e2:=hD.hi;rw[List.drop_zero] at e2
   obtain⟨e4,e5⟩:=BN hs0 r3 r4 e1 r5 e2;have hKm:=HK.out.1;have hlq:=hD.lq;exact⟨_,K,K,qs,_,ad u,ad u,R,rfl,hD.rq.a8,hD.uq,hlq,Jr _,by unfold maxLen;omega,by omega,r6.a8,r2,r1,Jr _,by unfold maxLen;omega,by omega,e4,e5,hD.bl,aY hD.b2,.inr (aY HB5.out)⟩
  ·obtain⟨k,rfl⟩:∃k,t=k+1:=⟨t-1,by omega⟩
   have hkK:k<K:=by omega
   have ek:((k+1:Nat):Int)-1=(k:Int):=by omega
   rw[ek];have hD:=H.out;have hlu:=hD.lu;have c1:=hD.ru.cell (k+(n+1)) (by omega)
   have c2:=hD.ru.cell (k+n) (by omega)
   have c3:=hD.rv.cell n (by have:=hD.lv;omega)
   have x1:=hD.uu (k+(n+1));have x2:=hD.uu (k+n);have x3:=hD.uv n;have x4:=hD.vt;have ek1:((k+(n+1):Nat):Int)=(k:Int)+((n:Int)+1):=by omega
   have ek2:((k+n:Nat):Int)=(k:Int)+(n:Int):=by omega
   have hvz:(gx Vr n==0)=false:=beq_eq_false_iff_ne.2 (by omega)
   have hmK:(m:Int)+1=(K:Int)+((n:Int)+1):=by have:=HK.out;omega
   have hkI1:(k:Int)+((n:Int)+1)<(m:Int)+1:=by omega
   have hkI2:(k:Int)+(n:Int)<(m:Int)+1:=by omega
   have HQ0:Hid (vd (u.drop k)/(vd es*sc)<=(gx u (k+(n+1))*65536+gx u (k+n))/gx Vr n/\vd (u.drop k)/(vd es*sc)<=65535):=by
    obtain⟨y1,y2,y3,y4⟩:=hD.pos;have hz:=iq hD.uu (k:=k+1) (n:=n+1) hD.hi y2;have hq0:0<=vd (u.drop k)/(vd es*sc):=Int.ediv_nonneg (aI (gJ hD.uu k)) (by omega)
    have hqm:=(j8 (x:=vd (u.drop k)) y1).1;have htt:=G6 u k (n+1) (by omega) (by rw[show k+(n+1)+1=k+1+(n+1) by omega];exact hz)
    rw[JD,show k+(n+1)-1=k+n by omega] at htt
    have hlow:=gg (eH (gJ hD.uu k) n);have hll:pd ((u.drop k).take n).length<=pd n:=dg (List.length_take_le _ _);refine⟨DU (dp n) htt (by omega) y3 y4 x4 hq0 hqm,?_⟩
    have hnx:=iG u k;have hhi:=hD.hi;have hlt:vd (u.drop k)<65536*(vd es*sc):=by have:=hD.uu k;omega
    have:=Int.ediv_lt_of_lt_mul y1 hlt;omega
   have HT:Hid (u.length=K+(n+1)/\(m:Int)+1=(K:Int)+((n:Int)+1)):=⟨hlu,hmK⟩;have htop0:0<=gx u (k+(n+1))*65536+gx u (k+n):=by omega
   have hq0:0<=(gx u (k+(n+1))*65536+gx u (k+n))/gx Vr n:=Int.ediv_nonneg htop0 (by omega)
   have hqt:(gx u (k+(n+1))*65536+gx u (k+n)).tdiv (gx Vr n)=(gx u (k+(n+1))*65536+gx u (k+n))/gx Vr n:=JM htop0;have hqb:(gx u (k+(n+1))*65536+gx u (k+n))/gx Vr n<=gx u (k+(n+1))*65536+gx u (k+n):=Int.ediv_le_self _ htop0;clear hD hlu ek hmK;by_cases hbig:65536<=(gx u (k+(n+1))*65536+gx u (k+n))/gx Vr n
   ·go_wp2
    go_region;all_goals go_wp2
    go_loopw [15] (fun gvv wr'=>∃g0:Int,gvv=.int .i64 g0/\0<=g0/\g0<=65535/\Hid (vd (u.drop k)/(vd es*sc)<=g0/\Rdv w wr' gu gq gv n K (k+1) u qs Vr (vd ds*sc) (vd es*sc))) (fun gvv _=>(intOf gvv).toNat)
    case atStart=>exact⟨65535,rfl,by decide,by decide,HQ0.out.2,H.out.later (Below.drew (Jt _ _))⟩
    case round=>
     obtain⟨g0,rfl,hg0,hg1,HQ⟩:=hrel;have hmw:=mf (n+1+1) (by omega)
     rw[show((n+1+1:Nat):Int)=(n:Int)+1+1 by omega] at hmw
     have hR2:=HQ.out.2;have hal:Below wr.heap.size wr (wr.alloc (.cells (ca .i64 (au (n+1+1))) 3)):=ag (Jt _ _);have hrw:Row (wr.alloc (.cells (ca .i64 (au (n+1+1))) 3)) wr.heap.size 3 .i64 (au (n+1+1)):=Row.new wr _ _ _;have hR3:=hR2.later hal;have hgw:wr.heap.size≠gu/\wr.heap.size≠gq/\wr.heap.size≠gv:=⟨by have:=hR2.ru.lt;omega,by have:=hR2.rq.lt;omega,by have:=hR2.rv.lt;omega⟩
     have hwl:w.heap.size<=wr.heap.size:=hR2.bl.size;have HW3:Hid (Rdv w (wr.alloc (.cells (ca .i64 (au (n+1+1))) 3)) gu gq gv n K (k+1) u qs Vr (vd ds*sc) (vd es*sc)/\Row (wr.alloc (.cells (ca .i64 (au (n+1+1))) 3)) wr.heap.size 3 .i64 (au (n+1+1))):=⟨hR3,hrw⟩;clear hR2 hal hrw hR3;go_wp2;generalize (wr.alloc (.cells (ca .i64 (au (n+1+1))) 3))=W3 at *
     generalize wr.heap.size=gw at *
     clear hmw;go_loopw [16,17,19] (fun cv bv iv wr'=>∃(i:Nat) (c bo:Int) (ws:List Int),i<=n+1+1/\iv=.int .i64 i/\cv=.int .i64 c/\bv=.int .i64 bo/\0<=c/\c<65536/\0<=bo/\bo<=1/\(i=n+1+1->c=0)/\Hid (ws.length=n+1+1/\U16 ws/\vd (ws.take i)=vd ((u.drop k).take i)-g0*vd ((Vr.take (n+1)).take i)+pd i*(c+bo)/\Row wr' gw 3 .i64 ws/\Rdv w wr' gu gq gv n K (k+1) u qs Vr (vd ds*sc) (vd es*sc))) (fun _ _ iv _=>(n+1+1-intOf iv).toNat)
     case atStart=>exact⟨0,0,0,au (n+1+1),Jz _,by go_num,rfl,rfl,by decide,by decide,by decide,by decide,fun h=>rfl,aZ _,g_ _,by simp[vd],HW3.out.2,HW3.out.1⟩
     case round=>
      obtain⟨i,c,bo,ws,hi,rfl,rfl,rfl,hc0,hc1,hb0,hb1,hcz,HI⟩:=hrel;by_cases hin:i<n+1+1
      ·have hR:=HI.out.2.2.2.2
       have hiI:(i:Int)<=(n:Int)+1:=by omega
       have hlu:=hR.lu;have cu:=hR.ru.cell (k+i) (by omega)
       have cw:=HI.out.2.2.2.1.cell i (by rw[HI.out.1];exact hin)
       have fw:=HI.out.2.2.2.1.frozen i;have xu:=hR.uu (k+i);have kiI:(k:Int)+(i:Int)<(K:Int)+((n:Int)+1):=by omega
       have eki:((k+i:Nat):Int)=(k:Int)+(i:Int):=by omega
       have HLU:Hid (u.length=K+(n+1)):=hlu;clear hlu hR;by_cases hin2:i<n+1
       ·have hin2I:(i:Int)<(n:Int)+1:=by omega
        have cv:=HI.out.2.2.2.2.rv.cell i (by have:=HI.out.2.2.2.2.lv;omega)
        have xv:=HI.out.2.2.2.2.uv i;have hmb:=ry (show 0<=gx Vr i/\gx Vr i<65536 by exact xv) (show 0<=g0/\g0<=65536 by omega)
        have hmb2:gx Vr i*g0<=4294836225:=by
         have h1:gx Vr i*g0<=65535*g0:=Jy (by omega) hg0
         omega
        have q1:(c+gx Vr i*g0).tmod 65536=(c+gx Vr i*g0)%65536:=Int.tmod_eq_emod_of_nonneg (by omega)
        have q2:(c+gx Vr i*g0).tdiv 65536=(c+gx Vr i*g0)/65536:=JM (by omega)
        by_cases hx:gx u (k+i)-(c+gx Vr i*g0)%65536-bo<0
        ·go_wp2
         obtain⟨f1,f2,f3,f4,f5⟩:=HI.out;have hlv:=f5.lv;refine⟨⟨i+1,(c+gx Vr i*g0)/65536,1,ws.set i (gx u (k+i)-(c+gx Vr i*g0)%65536-bo+65536),by omega,by go_num,rfl,rfl,by omega,by omega,by decide,by decide,fun h=>by omega,by rw[List.length_set];exact f1,c5 f2 _ (by omega),?_,f4.set i _,?_⟩,by simp[intOf];omega⟩
         ·exact mJ (d:=(c+gx Vr i*g0)%65536) (by omega) f3 (v:=gx Vr i) (by rw[bm _ _ _ hin2]) (by omega) (by rw[bC];omega)
         ·exact⟨f5.lu,f5.uu,f5.lq,f5.uq,f5.ru.ah _ _ (fun e=>hgw.1 e.symm),f5.rq.ah _ _ (fun e=>hgw.2.1 e.symm),f5.rv.ah _ _ (fun e=>hgw.2.2 e.symm),f5.lv,f5.uv,f5.vV,f5.vt,f5.n1,f5.n2,f5.n3,f5.b1,f5.b2,f5.b3,f5.hi,f5.eq,f5.bl.setCell (p:=⟨gw,i,none⟩) hwl _⟩
        ·go_wp2
         obtain⟨f1,f2,f3,f4,f5⟩:=HI.out;have hlv:=f5.lv;refine⟨⟨i+1,(c+gx Vr i*g0)/65536,0,ws.set i (gx u (k+i)-(c+gx Vr i*g0)%65536-bo),by omega,by go_num,rfl,rfl,by omega,by omega,by decide,by decide,fun h=>by omega,by rw[List.length_set];exact f1,c5 f2 _ (by omega),?_,f4.set i _,?_⟩,by simp[intOf];omega⟩
         ·exact mJ (d:=(c+gx Vr i*g0)%65536) (by omega) f3 (v:=gx Vr i) (by rw[bm _ _ _ hin2]) (by omega) (by rw[bC];omega)
         ·exact⟨f5.lu,f5.uu,f5.lq,f5.uq,f5.ru.ah _ _ (fun e=>hgw.1 e.symm),f5.rq.ah _ _ (fun e=>hgw.2.1 e.symm),f5.rv.ah _ _ (fun e=>hgw.2.2 e.symm),f5.lv,f5.uv,f5.vV,f5.vt,f5.n1,f5.n2,f5.n3,f5.b1,f5.b2,f5.b3,f5.hi,f5.eq,f5.bl.setCell (p:=⟨gw,i,none⟩) hwl _⟩
       ·have hin2I:¬(i:Int)<(n:Int)+1:=by omega
        have q1:c.tmod 65536=c:=by rw[Int.tmod_eq_emod_of_nonneg hc0];omega
        have q2:c.tdiv 65536=0:=by rw[JM hc0];omega
        have q3:c%65536=c:=by omega
        have q4:c/65536=0:=by omega
        by_cases hx:gx u (k+i)-c-bo<0
        ·go_wp2
         obtain⟨f1,f2,f3,f4,f5⟩:=HI.out;have hlv:=f5.lv;refine⟨⟨i+1,0,1,ws.set i (gx u (k+i)-c-bo+65536),by omega,by go_num,rfl,rfl,by omega,by omega,by decide,by decide,fun h=>rfl,by rw[List.length_set];exact f1,c5 f2 _ (by omega),?_,f4.set i _,?_⟩,by simp[intOf];omega⟩
         ·exact mI (by omega) (by simp;omega) f3 (by rw[bC];omega)
         ·exact⟨f5.lu,f5.uu,f5.lq,f5.uq,f5.ru.ah _ _ (fun e=>hgw.1 e.symm),f5.rq.ah _ _ (fun e=>hgw.2.1 e.symm),f5.rv.ah _ _ (fun e=>hgw.2.2 e.symm),f5.lv,f5.uv,f5.vV,f5.vt,f5.n1,f5.n2,f5.n3,f5.b1,f5.b2,f5.b3,f5.hi,f5.eq,f5.bl.setCell (p:=⟨gw,i,none⟩) hwl _⟩
        ·go_wp2
         obtain⟨f1,f2,f3,f4,f5⟩:=HI.out;have hlv:=f5.lv;refine⟨⟨i+1,0,0,ws.set i (gx u (k+i)-c-bo),by omega,by go_num,rfl,rfl,by omega,by omega,by decide,by decide,fun h=>rfl,by rw[List.length_set];exact f1,c5 f2 _ (by omega),?_,f4.set i _,?_⟩,by simp[intOf];omega⟩
         ·exact mI (by omega) (by simp;omega) f3 (by rw[bC];omega)
         ·exact⟨f5.lu,f5.uu,f5.lq,f5.uq,f5.ru.ah _ _ (fun e=>hgw.1 e.symm),f5.rq.ah _ _ (fun e=>hgw.2.1 e.symm),f5.rv.ah _ _ (fun e=>hgw.2.2 e.symm),f5.lv,f5.uv,f5.vV,f5.vt,f5.n1,f5.n2,f5.n3,f5.b1,f5.b2,f5.b3,f5.hi,f5.eq,f5.bl.setCell (p:=⟨gw,i,none⟩) hwl _⟩
      ·obtain rfl:i=n+1+1:=by omega
       have hc:=hcz rfl;subst hc;have HV2:Hid (vd ws=vd (u.drop k)-g0*(vd es*sc)+pd (n+1+1)*bo/\0<=vd ws/\vd ws<pd (n+1+1)):=by
        obtain⟨f1,f2,f3,f4,f5⟩:=HI.out;obtain⟨y1,y2,_⟩:=f5.pos;have hz:=iq f5.uu (k:=k+1) (n:=n+1) f5.hi y2;have e1:=jH (u.drop k) (n+1+1);rw[List.drop_drop,show k+(n+1+1)=k+1+(n+1) by omega,hz] at e1
        have h3:=aI f2;have h4:=gg f2;rw[f1] at h4
        rw[Jv (by omega),Jv (l:=Vr.take (n+1)) (by simp;omega),f5.vV] at f3
        exact⟨by rw[f3,Int.zero_add];omega,h3,h4⟩
       by_cases hbz:bo=0
       ·subst hbz
        have HE:Hid (vd ws=vd (u.drop k)-g0*(vd es*sc)/\vd ws<vd es*sc):=by
         obtain⟨f1,f2,f3⟩:=HV2.out;obtain⟨y1,y2,_⟩:=HI.out.2.2.2.2.pos;have h2:=HQ.out.1;have h3:=(j8 (x:=vd (u.drop k)) y1).2;have h4:(vd (u.drop k)/(vd es*sc)+1)*(vd es*sc)<=(g0+1)*(vd es*sc):=Jy (by omega) (by omega)
         rw[Int.add_mul g0,Int.one_mul] at h4
         have h5:=Int.lt_of_lt_of_le h3 h4;have f1':vd ws=vd (u.drop k)-g0*(vd es*sc):=by rw[f1,JC,Int.add_zero]
         exact⟨f1',by rw[f1'];omega⟩
        have HJ:Hid (ws.length=n+1+1/\U16 ws/\Row wr gw 3 .i64 ws/\Rdv w wr gu gq gv n K (k+1) u qs Vr (vd ds*sc) (vd es*sc)):=⟨HI.out.1,HI.out.2.1,HI.out.2.2.2.1,HI.out.2.2.2.2⟩;clear HI HV2 hcz hin;go_wp2;go_loopw [21] (fun iv wr'=>∃(i:Nat) (u':List Int),i<=n+1+1/\iv=.int .i64 i/\Hid (u'.length=u.length/\U16 u'/\(∀j,gx u' j=if k<=j/\j<k+i then gx ws (j-k) else gx u j)/\Row wr' gu 3 .i64 u'/\Row wr' gw 3 .i64 ws/\Row wr' gq 3 .i64 qs/\Row wr' gv 3 .i64 Vr/\Below w.heap.size w wr')) (fun iv _=>(n+1+1-intOf iv).toNat)
        case atStart=>exact⟨0,u,Jz _,by go_num,rfl,HJ.out.2.2.2.uu,fun j=>by rw[if_neg (by omega)],HJ.out.2.2.2.ru,HJ.out.2.2.1,HJ.out.2.2.2.rq,HJ.out.2.2.2.rv,HJ.out.2.2.2.bl⟩
        case round=>
         obtain⟨i,u',hi4,rfl,H4⟩:=hrel;by_cases hin:i<n+1+1
         ·have hiI:(i:Int)<=(n:Int)+1:=by omega
          have hlu:=HJ.out.2.2.2.lu;have kiI:(k:Int)+(i:Int)<(K:Int)+((n:Int)+1):=by omega
          have eki:((k+i:Nat):Int)=(k:Int)+(i:Int):=by omega
          have cw:=H4.out.2.2.2.2.1.cell i (by rw[HJ.out.1];exact hin)
          have cu:=H4.out.2.2.2.1.cell (k+i) (by rw[H4.out.1];omega)
          have fu:=H4.out.2.2.2.1.frozen (k+i);have hx:=HJ.out.2.1 i;have HLU:Hid (u.length=K+(n+1)):=hlu;clear hlu;go_wp2;obtain⟨f1,f2,f3,f4,f5,f6,f7,f8⟩:=H4.out;have hD:=HJ.out.2.2.2;have hlu:=HLU.out;refine⟨⟨i+1,u'.set (k+i) (gx ws i),by omega,by go_num,by rw[List.length_set];exact f1,c5 f2 _ hx,fun j=>?_,f4.set (k+i) _,f5.ah _ _ hgw.1,f6.ah _ _ (fun e=>hD.n1 e.symm),f7.ah _ _ (fun e=>hD.n2 e.symm),f8.setCell (p:=⟨gu,k+i,none⟩) hD.b1 _⟩,by simp[intOf];omega⟩
          by_cases hj:k+i=j
          ·subst hj
           rw[bK u' _ _ (by omega),if_pos (by omega)]
           congr 1;omega
          ·rw[cl u' _ _ _ hj,f3 j]
           by_cases hc:k<=j/\j<k+i
           ·rw[if_pos hc,if_pos (by omega)]
           ·rw[if_neg hc,if_neg (by omega)]
         ·obtain rfl:i=n+1+1:=by omega
          have cq:=H4.out.2.2.2.2.2.1.cell k (by rw[HJ.out.2.2.2.lq];exact hkK)
          have fq:=H4.out.2.2.2.2.2.1.frozen k;have hkI:(k:Int)<(K:Int):=by omega
          go_wp2;obtain⟨f1,f2,f3,f4,f5,f6,f7,f8⟩:=H4.out;have hD:=HJ.out.2.2.2;exact⟨⟨k,u',qs.set k g0,by omega,by go_num,hD.next hkK f1 f2 HJ.out.1 f3 HE.out.1 HE.out.2 hg0 (by omega) (f4.ah _ _ hD.n1) (f6.set k _) (f7.ah _ _ (fun e=>hD.n3 e.symm)) (f8.setCell (p:=⟨gq,k,none⟩) hD.b2 _)⟩,by simp[intOf]⟩
       ·obtain rfl:bo=1:=by omega
        have HE:Hid (vd (u.drop k)/(vd es*sc)<=g0-1):=by
         obtain⟨f1,f2,f3⟩:=HV2.out;obtain⟨y1,y2,_⟩:=HI.out.2.2.2.2.pos;have h3:=(j8 (x:=vd (u.drop k)) y1).1;show _<=_
         rcases(show vd (u.drop k)/(vd es*sc)<=g0-1\/g0<=vd (u.drop k)/(vd es*sc) by omega) with h4|h4
         ·exact h4
         ·exfalso
          have h5:g0*(vd es*sc)<=vd (u.drop k)/(vd es*sc)*(vd es*sc):=Jy h4 (by omega)
          omega
        have hq0:Hid (0<=vd (u.drop k)/(vd es*sc)):=by
         obtain⟨y1,y2,_⟩:=HI.out.2.2.2.2.pos;exact Int.ediv_nonneg (aI (gJ HI.out.2.2.2.2.uu k)) (by omega)
        have hg0':1<=g0:=by have:=HE.out;have:=hq0.out;omega
        go_wp2;exact⟨⟨g0-1,rfl,by omega,by omega,HE.out,HI.out.2.2.2.2⟩,by simp[intOf];omega⟩
   ·go_wp2
    go_region;all_goals go_wp2
    go_loopw [15] (fun gvv wr'=>∃g0:Int,gvv=.int .i64 g0/\0<=g0/\g0<=65535/\Hid (vd (u.drop k)/(vd es*sc)<=g0/\Rdv w wr' gu gq gv n K (k+1) u qs Vr (vd ds*sc) (vd es*sc))) (fun gvv _=>(intOf gvv).toNat)
    case atStart=>exact⟨_,rfl,hq0,by omega,HQ0.out.1,H.out.later (Below.drew (Jt _ _))⟩
    case round=>
     obtain⟨g0,rfl,hg0,hg1,HQ⟩:=hrel;have hmw:=mf (n+1+1) (by omega)
     rw[show((n+1+1:Nat):Int)=(n:Int)+1+1 by omega] at hmw
     have hR2:=HQ.out.2;have hal:Below wr.heap.size wr (wr.alloc (.cells (ca .i64 (au (n+1+1))) 3)):=ag (Jt _ _);have hrw:Row (wr.alloc (.cells (ca .i64 (au (n+1+1))) 3)) wr.heap.size 3 .i64 (au (n+1+1)):=Row.new wr _ _ _;have hR3:=hR2.later hal;have hgw:wr.heap.size≠gu/\wr.heap.size≠gq/\wr.heap.size≠gv:=⟨by have:=hR2.ru.lt;omega,by have:=hR2.rq.lt;omega,by have:=hR2.rv.lt;omega⟩
     have hwl:w.heap.size<=wr.heap.size:=hR2.bl.size;have HW3:Hid (Rdv w (wr.alloc (.cells (ca .i64 (au (n+1+1))) 3)) gu gq gv n K (k+1) u qs Vr (vd ds*sc) (vd es*sc)/\Row (wr.alloc (.cells (ca .i64 (au (n+1+1))) 3)) wr.heap.size 3 .i64 (au (n+1+1))):=⟨hR3,hrw⟩;clear hR2 hal hrw hR3;go_wp2;generalize (wr.alloc (.cells (ca .i64 (au (n+1+1))) 3))=W3 at *
     generalize wr.heap.size=gw at *
     clear hmw;go_loopw [16,17,19] (fun cv bv iv wr'=>∃(i:Nat) (c bo:Int) (ws:List Int),i<=n+1+1/\iv=.int .i64 i/\cv=.int .i64 c/\bv=.int .i64 bo/\0<=c/\c<65536/\0<=bo/\bo<=1/\(i=n+1+1->c=0)/\Hid (ws.length=n+1+1/\U16 ws/\vd (ws.take i)=vd ((u.drop k).take i)-g0*vd ((Vr.take (n+1)).take i)+pd i*(c+bo)/\Row wr' gw 3 .i64 ws/\Rdv w wr' gu gq gv n K (k+1) u qs Vr (vd ds*sc) (vd es*sc))) (fun _ _ iv _=>(n+1+1-intOf iv).toNat)
     case atStart=>exact⟨0,0,0,au (n+1+1),Jz _,by go_num,rfl,rfl,by decide,by decide,by decide,by decide,fun h=>rfl,aZ _,g_ _,by simp[vd],HW3.out.2,HW3.out.1⟩
     case round=>
      obtain⟨i,c,bo,ws,hi,rfl,rfl,rfl,hc0,hc1,hb0,hb1,hcz,HI⟩:=hrel;by_cases hin:i<n+1+1
      ·have hR:=HI.out.2.2.2.2
       have hiI:(i:Int)<=(n:Int)+1:=by omega
       have hlu:=hR.lu;have cu:=hR.ru.cell (k+i) (by omega)
       have cw:=HI.out.2.2.2.1.cell i (by rw[HI.out.1];exact hin)
       have fw:=HI.out.2.2.2.1.frozen i;have xu:=hR.uu (k+i);have kiI:(k:Int)+(i:Int)<(K:Int)+((n:Int)+1):=by omega
       have eki:((k+i:Nat):Int)=(k:Int)+(i:Int):=by omega
       have HLU:Hid (u.length=K+(n+1)):=hlu;clear hlu hR;by_cases hin2:i<n+1
       ·have hin2I:(i:Int)<(n:Int)+1:=by omega
        have cv:=HI.out.2.2.2.2.rv.cell i (by have:=HI.out.2.2.2.2.lv;omega)
        have xv:=HI.out.2.2.2.2.uv i;have hmb:=ry (show 0<=gx Vr i/\gx Vr i<65536 by exact xv) (show 0<=g0/\g0<=65536 by omega)
        have hmb2:gx Vr i*g0<=4294836225:=by
         have h1:gx Vr i*g0<=65535*g0:=Jy (by omega) hg0
         omega
        have q1:(c+gx Vr i*g0).tmod 65536=(c+gx Vr i*g0)%65536:=Int.tmod_eq_emod_of_nonneg (by omega)
        have q2:(c+gx Vr i*g0).tdiv 65536=(c+gx Vr i*g0)/65536:=JM (by omega)
        by_cases hx:gx u (k+i)-(c+gx Vr i*g0)%65536-bo<0
        ·go_wp2
         obtain⟨f1,f2,f3,f4,f5⟩:=HI.out;have hlv:=f5.lv;refine⟨⟨i+1,(c+gx Vr i*g0)/65536,1,ws.set i (gx u (k+i)-(c+gx Vr i*g0)%65536-bo+65536),by omega,by go_num,rfl,rfl,by omega,by omega,by decide,by decide,fun h=>by omega,by rw[List.length_set];exact f1,c5 f2 _ (by omega),?_,f4.set i _,?_⟩,by simp[intOf];omega⟩
         ·exact mJ (d:=(c+gx Vr i*g0)%65536) (by omega) f3 (v:=gx Vr i) (by rw[bm _ _ _ hin2]) (by omega) (by rw[bC];omega)
         ·exact⟨f5.lu,f5.uu,f5.lq,f5.uq,f5.ru.ah _ _ (fun e=>hgw.1 e.symm),f5.rq.ah _ _ (fun e=>hgw.2.1 e.symm),f5.rv.ah _ _ (fun e=>hgw.2.2 e.symm),f5.lv,f5.uv,f5.vV,f5.vt,f5.n1,f5.n2,f5.n3,f5.b1,f5.b2,f5.b3,f5.hi,f5.eq,f5.bl.setCell (p:=⟨gw,i,none⟩) hwl _⟩
        ·go_wp2
         obtain⟨f1,f2,f3,f4,f5⟩:=HI.out;have hlv:=f5.lv;refine⟨⟨i+1,(c+gx Vr i*g0)/65536,0,ws.set i (gx u (k+i)-(c+gx Vr i*g0)%65536-bo),by omega,by go_num,rfl,rfl,by omega,by omega,by decide,by decide,fun h=>by omega,by rw[List.length_set];exact f1,c5 f2 _ (by omega),?_,f4.set i _,?_⟩,by simp[intOf];omega⟩
         ·exact mJ (d:=(c+gx Vr i*g0)%65536) (by omega) f3 (v:=gx Vr i) (by rw[bm _ _ _ hin2]) (by omega) (by rw[bC];omega)
         ·exact⟨f5.lu,f5.uu,f5.lq,f5.uq,f5.ru.ah _ _ (fun e=>hgw.1 e.symm),f5.rq.ah _ _ (fun e=>hgw.2.1 e.symm),f5.rv.ah _ _ (fun e=>hgw.2.2 e.symm),f5.lv,f5.uv,f5.vV,f5.vt,f5.n1,f5.n2,f5.n3,f5.b1,f5.b2,f5.b3,f5.hi,f5.eq,f5.bl.setCell (p:=⟨gw,i,none⟩) hwl _⟩
       ·have hin2I:¬(i:Int)<(n:Int)+1:=by omega
        have q1:c.tmod 65536=c:=by rw[Int.tmod_eq_emod_of_nonneg hc0];omega
        have q2:c.tdiv 65536=0:=by rw[JM hc0];omega
        have q3:c%65536=c:=by omega
        have q4:c/65536=0:=by omega
        by_cases hx:gx u (k+i)-c-bo<0
        ·go_wp2
         obtain⟨f1,f2,f3,f4,f5⟩:=HI.out;have hlv:=f5.lv;refine⟨⟨i+1,0,1,ws.set i (gx u (k+i)-c-bo+65536),by omega,by go_num,rfl,rfl,by omega,by omega,by decide,by decide,fun h=>rfl,by rw[List.length_set];exact f1,c5 f2 _ (by omega),?_,f4.set i _,?_⟩,by simp[intOf];omega⟩
         ·exact mI (by omega) (by simp;omega) f3 (by rw[bC];omega)
         ·exact⟨f5.lu,f5.uu,f5.lq,f5.uq,f5.ru.ah _ _ (fun e=>hgw.1 e.symm),f5.rq.ah _ _ (fun e=>hgw.2.1 e.symm),f5.rv.ah _ _ (fun e=>hgw.2.2 e.symm),f5.lv,f5.uv,f5.vV,f5.vt,f5.n1,f5.n2,f5.n3,f5.b1,f5.b2,f5.b3,f5.hi,f5.eq,f5.bl.setCell (p:=⟨gw,i,none⟩) hwl _⟩
        ·go_wp2
         obtain⟨f1,f2,f3,f4,f5⟩:=HI.out;have hlv:=f5.lv;refine⟨⟨i+1,0,0,ws.set i (gx u (k+i)-c-bo),by omega,by go_num,rfl,rfl,by omega,by omega,by decide,by decide,fun h=>rfl,by rw[List.length_set];exact f1,c5 f2 _ (by omega),?_,f4.set i _,?_⟩,by simp[intOf];omega⟩
         ·exact mI (by omega) (by simp;omega) f3 (by rw[bC];omega)
         ·exact⟨f5.lu,f5.uu,f5.lq,f5.uq,f5.ru.ah _ _ (fun e=>hgw.1 e.symm),f5.rq.ah _ _ (fun e=>hgw.2.1 e.symm),f5.rv.ah _ _ (fun e=>hgw.2.2 e.symm),f5.lv,f5.uv,f5.vV,f5.vt,f5.n1,f5.n2,f5.n3,f5.b1,f5.b2,f5.b3,f5.hi,f5.eq,f5.bl.setCell (p:=⟨gw,i,none⟩) hwl _⟩
      ·obtain rfl:i=n+1+1:=by omega
       have hc:=hcz rfl;subst hc;have HV2:Hid (vd ws=vd (u.drop k)-g0*(vd es*sc)+pd (n+1+1)*bo/\0<=vd ws/\vd ws<pd (n+1+1)):=by
        obtain⟨f1,f2,f3,f4,f5⟩:=HI.out;obtain⟨y1,y2,_⟩:=f5.pos;have hz:=iq f5.uu (k:=k+1) (n:=n+1) f5.hi y2;have e1:=jH (u.drop k) (n+1+1);rw[List.drop_drop,show k+(n+1+1)=k+1+(n+1) by omega,hz] at e1
        have h3:=aI f2;have h4:=gg f2;rw[f1] at h4
        rw[Jv (by omega),Jv (l:=Vr.take (n+1)) (by simp;omega),f5.vV] at f3
        exact⟨by rw[f3,Int.zero_add];omega,h3,h4⟩
       by_cases hbz:bo=0
       ·subst hbz
        have HE:Hid (vd ws=vd (u.drop k)-g0*(vd es*sc)/\vd ws<vd es*sc):=by
         obtain⟨f1,f2,f3⟩:=HV2.out;obtain⟨y1,y2,_⟩:=HI.out.2.2.2.2.pos;have h2:=HQ.out.1;have h3:=(j8 (x:=vd (u.drop k)) y1).2;have h4:(vd (u.drop k)/(vd es*sc)+1)*(vd es*sc)<=(g0+1)*(vd es*sc):=Jy (by omega) (by omega)
         rw[Int.add_mul g0,Int.one_mul] at h4
         have h5:=Int.lt_of_lt_of_le h3 h4;have f1':vd ws=vd (u.drop k)-g0*(vd es*sc):=by rw[f1,JC,Int.add_zero]
         exact⟨f1',by rw[f1'];omega⟩
        have HJ:Hid (ws.length=n+1+1/\U16 ws/\Row wr gw 3 .i64 ws/\Rdv w wr gu gq gv n K (k+1) u qs Vr (vd ds*sc) (vd es*sc)):=⟨HI.out.1,HI.out.2.1,HI.out.2.2.2.1,HI.out.2.2.2.2⟩;clear HI HV2 hcz hin;go_wp2;go_loopw [21] (fun iv wr'=>∃(i:Nat) (u':List Int),i<=n+1+1/\iv=.int .i64 i/\Hid (u'.length=u.length/\U16 u'/\(∀j,gx u' j=if k<=j/\j<k+i then gx ws (j-k) else gx u j)/\Row wr' gu 3 .i64 u'/\Row wr' gw 3 .i64 ws/\Row wr' gq 3 .i64 qs/\Row wr' gv 3 .i64 Vr/\Below w.heap.size w wr')) (fun iv _=>(n+1+1-intOf iv).toNat)
        case atStart=>exact⟨0,u,Jz _,by go_num,rfl,HJ.out.2.2.2.uu,fun j=>by rw[if_neg (by omega)],HJ.out.2.2.2.ru,HJ.out.2.2.1,HJ.out.2.2.2.rq,HJ.out.2.2.2.rv,HJ.out.2.2.2.bl⟩
        case round=>
         obtain⟨i,u',hi4,rfl,H4⟩:=hrel;by_cases hin:i<n+1+1
         ·have hiI:(i:Int)<=(n:Int)+1:=by omega
          have hlu:=HJ.out.2.2.2.lu;have kiI:(k:Int)+(i:Int)<(K:Int)+((n:Int)+1):=by omega
          have eki:((k+i:Nat):Int)=(k:Int)+(i:Int):=by omega
          have cw:=H4.out.2.2.2.2.1.cell i (by rw[HJ.out.1];exact hin)
          have cu:=H4.out.2.2.2.1.cell (k+i) (by rw[H4.out.1];omega)
          have fu:=H4.out.2.2.2.1.frozen (k+i);have hx:=HJ.out.2.1 i;have HLU:Hid (u.length=K+(n+1)):=hlu;clear hlu;go_wp2;obtain⟨f1,f2,f3,f4,f5,f6,f7,f8⟩:=H4.out;have hD:=HJ.out.2.2.2;have hlu:=HLU.out;refine⟨⟨i+1,u'.set (k+i) (gx ws i),by omega,by go_num,by rw[List.length_set];exact f1,c5 f2 _ hx,fun j=>?_,f4.set (k+i) _,f5.ah _ _ hgw.1,f6.ah _ _ (fun e=>hD.n1 e.symm),f7.ah _ _ (fun e=>hD.n2 e.symm),f8.setCell (p:=⟨gu,k+i,none⟩) hD.b1 _⟩,by simp[intOf];omega⟩
          by_cases hj:k+i=j
          ·subst hj
           rw[bK u' _ _ (by omega),if_pos (by omega)]
           congr 1;omega
          ·rw[cl u' _ _ _ hj,f3 j]
           by_cases hc:k<=j/\j<k+i
           ·rw[if_pos hc,if_pos (by omega)]
           ·rw[if_neg hc,if_neg (by omega)]
         ·obtain rfl:i=n+1+1:=by omega
          have cq:=H4.out.2.2.2.2.2.1.cell k (by rw[HJ.out.2.2.2.lq];exact hkK)
          have fq:=H4.out.2.2.2.2.2.1.frozen k;have hkI:(k:Int)<(K:Int):=by omega
          go_wp2;obtain⟨f1,f2,f3,f4,f5,f6,f7,f8⟩:=H4.out;have hD:=HJ.out.2.2.2;exact⟨⟨k,u',qs.set k g0,by omega,by go_num,hD.next hkK f1 f2 HJ.out.1 f3 HE.out.1 HE.out.2 hg0 (by omega) (f4.ah _ _ hD.n1) (f6.set k _) (f7.ah _ _ (fun e=>hD.n3 e.symm)) (f8.setCell (p:=⟨gq,k,none⟩) hD.b2 _)⟩,by simp[intOf]⟩
       ·obtain rfl:bo=1:=by omega
        have HE:Hid (vd (u.drop k)/(vd es*sc)<=g0-1):=by
         obtain⟨f1,f2,f3⟩:=HV2.out;obtain⟨y1,y2,_⟩:=HI.out.2.2.2.2.pos;have h3:=(j8 (x:=vd (u.drop k)) y1).1;show _<=_
         rcases(show vd (u.drop k)/(vd es*sc)<=g0-1\/g0<=vd (u.drop k)/(vd es*sc) by omega) with h4|h4
         ·exact h4
         ·exfalso
          have h5:g0*(vd es*sc)<=vd (u.drop k)/(vd es*sc)*(vd es*sc):=Jy h4 (by omega)
          omega
        have hq0:Hid (0<=vd (u.drop k)/(vd es*sc)):=by
         obtain⟨y1,y2,_⟩:=HI.out.2.2.2.2.pos;exact Int.ediv_nonneg (aI (gJ HI.out.2.2.2.2.uu k)) (by omega)
        have hg0':1<=g0:=by have:=HE.out;have:=hq0.out;omega
        go_wp2;exact⟨⟨g0-1,rfl,by omega,by omega,HE.out,HI.out.2.2.2.2⟩,by simp[intOf];omega⟩
end Go.Proofs.YtdjjlghlcffflaaGreatDoor
