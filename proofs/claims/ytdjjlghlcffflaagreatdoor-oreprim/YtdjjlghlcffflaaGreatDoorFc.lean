/- Own. -/
import Derived.Test.YtdjjlghlcffflaaGreatDoorFx
set_option linter.unusedVariables false
set_option linter.unusedSimpArgs false
set_option maxHeartbeats 8000000
set_option maxRecDepth 100000
namespace Go.Proofs.YtdjjlghlcffflaaGreatDoor
open Go.RowKit
variable {zs ys:List Int} {m k n:Nat}
theorem BJ(hk:1<=k)(hk13:k<=13)(hm12:m<=12)(hn:n=m+k)(hzl:zs.length=n)(hl:ys.length=m+1)(hy:gx ys m≠0)(hz:gx zs (n-1)≠0):
  (GD (dF zs ys m k) (dC zs ys m k) (gx ys m) m k (k+pb zs+Lib.bitLen n)->Dvd zs ys)/\(∀q:List Int,(∀t,gx zs t=gx (ax q ys) t)->GD (dF zs ys m k) (dC zs ys m k) (gx ys m) m k (k+pb zs+Lib.bitLen n)/\ad q=k/\∀s,s<k->dC zs ys m k s=gx q s):=by
 refine⟨fun h=>?_,fun q hq=>?_⟩
 ·have h1:=DC (by omega) (by omega) h
  refine⟨(List.range k).map (dC zs ys m k),fun t=>?_⟩
  have hg:∀i,i<k->gx ((List.range k).map (dC zs ys m k)) i=dC zs ys m k i:=fun i hi=>by rw[bZ _ _ (by simpa using hi)];simp
  have h2:=jY ((List.range k).map (dC zs ys m k)) ys t k;have h3:=iX ((List.range k).map (dC zs ys m k)) ys t k (fun i hi=>ak _ k (by simp) i hi) (t+1)
  rw[cI,<-h2,Nat.add_comm (t+1),h3,sL,h1 t];exact uA ys t _ (fun i hi=>(hg i hi).symm)
 ·have htz:ad zs=n:=aX _ _ (fun j hj=>ak zs n (by omega) j hj) (.inr hz)
  have hqk:ad q=k:=by
   rcases dV hl hy hq with h0|⟨a,h1,h2,-⟩
   ·omega
   ·omega
  have hQ:∀i,k<=i->gx q i=0:=fun i hi=>az q i (by omega)
  have hc:∀t,gx zs t=cvf (gx q) ys k t:=fun t=>by
   have h2:=jY q ys t k;have h3:=iX q ys t k hQ (t+1);rw[hq t,cI,<-h2,Nat.add_comm (t+1),h3,sL]
  exact⟨DP (by omega) hy hc (fun s hs=>xy hk hk13 hm12 hn (by omega) (by omega) hy hQ hc s hs),hqk,(BI (by omega) hy hc).2⟩
def UxP(xs ys:List Int)(M:Nat)(w:World)(r:Ending)(w':World):Prop:=
 ((∃(p:Option Addr) (n:Nat) (es:List Ent) (qz:List Int),r=.returned (.tuple #[.slice p n n,.bool true])/\PN w.heap.size w' M p n es qz/\n<=13/\1<=ys.length/\∀t,gx xs t=gx (ax qz ys) t)\/(r=.returned (.tuple #[.slice none (0:Nat) (0:Nat),.bool false])/\(ys.length=0\/¬Dvd xs ys)))/\Below w.heap.size w w'
theorem Ch(ys:List Int)(t:Nat):gx (ax [] ys) t=0:=by
 rw[cI];have e:∀i,ps [] ys i t=0:=fun i=>by
  induction i with
  |zero=>rfl
  |succ i ih=>rw[jZ [] ys i t (by simp[gx]),ih]
 exact e _
theorem yu(w:World)(p q:Option Addr)(m mc:Nat)(hm:m<=1000):
  Calls Tryz.prog 83 #[.slice p 0 0,.slice q m mc] w fun r w'=>r=.returned (.tuple #[.slice none (0:Nat) (0:Nat),.bool true])/\w=w':=by
 go_enter Tryz.func83,Tryz.ntmps83;go_wp2;go_ret2;exact⟨rfl,rfl⟩
variable {w:World} {K L nc mc:Nat} {p q:Option Addr} {es fs:List Ent}
theorem A6(h:PA w K p n nc es zs)(hb:PA w L q m mc fs ys)(hn:n<=30)(hm:m<=13)(hK:K<=9)(hL:L<=4)(hk13:1<=ad ys->ad zs<ad ys+13):
  Calls Tryz.prog 41 #[.slice p n nc,.slice q m mc] w (UxP (tr zs) (tr ys) 17 w):=by
 have htz:=aj zs;have hty:=aj ys;have hzl:=h.zl;have hyl:=hb.zl;go_enter Tryz.func41,Tryz.ntmps41;go_wp2_with fail;refine(kB K p n nc es zs _ h (by omega) (by omega)).mono ?_
 rintro e w1 ⟨p1,n1,es1,rfl,h1,hb1⟩;go_wp2_with fail;refine(kB L q m mc fs ys _ (hb.below hb1) (by omega) (by omega)).mono ?_
 rintro e w2 ⟨q1,m1,fs1,rfl,k1,hb2⟩;have hn':=h1.zl;have hm1:=k1.zl;rw[af] at hn' hm1
 have hn30:n1<=30:=by omega
 have hm13:m1<=13:=by omega
 have HX:Hid (PB w.heap.size w2 K p1 n1 es1 (tr zs)/\PB w1.heap.size w2 L q1 m1 fs1 (tr ys)/\Below w.heap.size w w2/\(1<=m1->n1<m1+13)):=⟨h1.below hb2,k1,ae hb1 hb2,by rw[<-hn',<-hm1];exact hk13⟩
 clear h hb h1 k1 hb1 hb2 hn' hm1 hk13 htz hty hzl hyl;have hcs:Hid (m1=0\/(1<=m1/\n1=0)\/(1<=n1/\n1<m1)\/(1<=m1/\m1<=n1)):=by show _\/_;omega
 rcases hcs.out with h0|⟨h0,h1⟩|⟨h0,h1⟩|⟨h0,h1⟩
 ·subst h0
  clear hcs;go_wp2;go_ret2;exact⟨.inr ⟨rfl,.inl HX.out.2.1.zl⟩,HX.out.2.2.1⟩
 ·subst h1
  have i1:¬(m1:Int)=0:=by omega
  have i1':((m1:Int)==0)=false:=by rw[beq_eq_false_iff_ne];exact i1
  have he:=yu w2 p1 q1 m1 m1 (by omega)
  clear hcs;go_wp2_with fail;refine he.mono ?_;rintro r w3 ⟨rfl,rfl⟩;clear he;go_wp2;go_ret2;refine⟨.inl ⟨none,0,[],[],rfl,Cu _ _ _,Jz _,by rw[HX.out.2.1.zl];exact h0,fun t=>?_⟩,HX.out.2.2.1⟩
  rw[Ch,JB HX.out.1.zl];simp[gx]
 ·have i1:¬(m1:Int)=0:=by omega
  have i1':((m1:Int)==0)=false:=by rw[beq_eq_false_iff_ne];exact i1
  have i2:(0:Int)<(n1:Int):=by omega
  have i3:(n1:Int)<(m1:Int):=by omega
  clear hcs;go_wp2;go_ret2;refine⟨.inr ⟨rfl,.inr fun hd=>?_⟩,HX.out.2.2.1⟩
  obtain⟨pp,hp⟩:=hd;have hyt:=aw (tr ys) (by rw[HX.out.2.1.nrm];omega)
  rw[HX.out.2.1.nrm] at hyt
  rcases dV (m:=m1-1) (by rw[HX.out.2.1.zl];omega) hyt hp with h2|⟨a,-,h2,-⟩
  ·have:=HX.out.1.nrm;omega
  ·have:=HX.out.1.nrm;omega
 ·obtain⟨mm,hmm⟩:∃mm,m1=mm+1:=⟨m1-1,by omega⟩
  obtain⟨k,hk⟩:∃k,n1=mm+k:=⟨n1-mm,by omega⟩
  have i1:¬(m1:Int)=0:=by omega
  have i1':((m1:Int)==0)=false:=by rw[beq_eq_false_iff_ne];exact i1
  have i2:(0:Int)<(n1:Int):=by omega
  have i3:(m1:Int)<=(n1:Int):=by omega
  have hk1:1<=k:=by omega
  have hk13:k<=13:=by have:=HX.out.2.2.2 h0;omega
  have hB:=HX.out.2.1;rw[hmm] at hB
  have hpa:=HX.out.1.pa (by omega)
  have hqa:=HX.out.2.1.pa (by omega)
  have hpb:=AJ hpa (by omega)
  have hbl:=bitLen_le n1;have hdq:=Fs (zs:=tr zs) (ys:=tr ys) (m:=mm) (k:=k) (A:=9) (L:=4) (Q:=12) (D:=16) (most:=k+pb (tr zs)+Lib.bitLen n1) (by omega) (fun t=>Int.lt_of_lt_of_le (hpa.gbd t) (aW hK)) (fun t=>Int.lt_of_lt_of_le (hqa.gbd t) (aW hL)) (by omega) (by decide) (by decide)
  rw[<-hk] at hdq
  have hxa:=uE HX.out.1 hB hk hk1 (by omega) (by omega) (by omega) 17 (by decide) hdq
  have hyt:gx (tr ys) mm≠0:=by
   have h9:=aw (tr ys) (by rw[HX.out.2.1.nrm];omega)
   rw[HX.out.2.1.nrm] at h9
   rwa [show m1-1=mm by omega] at h9
  have hzt:gx (tr zs) (n1-1)≠0:=by
   have h9:=aw (tr zs) (by rw[HX.out.1.nrm];omega)
   rwa [HX.out.1.nrm] at h9
  have HD:=(show Hid _ from BJ (zs:=tr zs) (ys:=tr ys) (m:=mm) (k:=k) (n:=n1) hk1 hk13 (by omega) hk HX.out.1.zl (by rw[HX.out.2.1.zl];exact hmm) hyt hzt)
  rw[<-hmm] at hxa
  clear hcs hB hpa hqa hpb hbl hdq hyt hzt;clear hk hmm;go_wp2_with fail;refine hxa.mono ?_;rintro r w3 ⟨hr,hb3⟩;clear hxa;have HB3:Hid (Below w.heap.size w w3):=ae HX.out.2.2.1 hb3;rcases hr with ⟨u,us,rfl,r1,r2,r3,r4,hG⟩|⟨rfl,hG⟩
  ·have HF:Hid (UxP (tr zs) (tr ys) 17 w (.returned (.tuple #[.slice u k k,.bool true])) w3):=by
    obtain⟨qq,hqq⟩:=HD.out.1 hG;obtain⟨-,hq1,hq2⟩:=HD.out.2 qq hqq;have hs:=HX.out.2.2.1.size;refine⟨.inl ⟨u,k,us,tr qq,rfl,⟨r1,by rw[af];exact hq1,by rw[aM];exact hq1,r2,fun a ha=>JA hs (r3 a ha),fun i hi=>?_⟩,hk13,by rw[HX.out.2.1.zl];exact h0,fun t=>?_⟩,HB3.out⟩
    ·rw[aN,<-hq2 i hi]
     exact(r4 i hi).mono hs
    ·rw[hqq t,cI,cI]
     exact zC (fun j=>(aN qq j).symm) (fun _=>rfl) t _
   clear r1 r2 r3 r4 hG HD hb3 HB3;go_wp2;go_ret2;exact HF.out
  ·have HF:Hid (UxP (tr zs) (tr ys) 17 w (.returned (.tuple #[.slice none (0:Nat) (0:Nat),.bool false])) w3):=⟨.inr ⟨rfl,.inr fun hd=>by
    obtain⟨qq,hqq⟩:=hd;exact hG (HD.out.2 qq hqq).1⟩,HB3.out⟩
   clear hG HD hb3 HB3;go_wp2;go_ret2;exact HF.out
theorem uW(K:Nat)(hK:K<150)(hK1:1<=K)(h:PA w K p 0 0 es []):
  Calls Tryz.prog 70 #[.slice p (0:Nat) (0:Nat)] w (PtP [] K w):=by
 go_enter Tryz.func70,Tryz.ntmps70;go_wp2_with fail;have hal0:=ag (o:=.cells #[.bool false,.slice none 0 0] 50) (Jt w.heap.size w);have hR0:Bx (w.alloc (.cells #[.bool false,.slice none 0 0] 50)) w.heap.size (.bool false) (.slice none 0 0):=Bx.new _ _ _ rfl;generalize w.alloc (.cells #[.bool false,.slice none 0 0] 50)=W0 at *
 refine(pZ (h.below hal0) (by decide) hK hK1).mono ?_
 rintro r w1 ⟨u,rfl,hN,hb1⟩;have sR:w.heap.size<W0.heap.size:=block_lt_of_cell hR0.c0;have hal:=ag (o:=.cells #[.bool u.s,.slice u.p u.n u.c] 50) (Jt w1.heap.size w1);have hC:Bx (w1.alloc (.cells #[.bool u.s,.slice u.p u.n u.c] 50)) w1.heap.size (.bool u.s) (.slice u.p u.n u.c):=Bx.new _ _ _ rfl;obtain⟨q0,q1,-,-⟩:=id hC;obtain⟨r0,r1,f0,f1⟩:=(hR0.later hb1).later hal;have hN2:=hN.below hal;have hB2:=ae (ae hal0 hb1) hal;clear hN;go_wp2_with fail;generalize w1.alloc (.cells #[.bool u.s,.slice u.p u.n u.c] 50)=W2 at *
 refine bodyPost_ret (v:=.tuple #[.agg #[.bool u.s,.slice u.p u.n u.c],.slice none 0 0]) (by simp[results,Tryz.results70,go_sem,r0,r1]) rfl ?_
 exact⟨u,none,0,[],rfl,(hN2.b8 (g:=w.heap.size) (o:=0) sR _ _).mono (Nat.le_of_lt sR),⟨rfl,rfl,rfl,PL.nil,nofun,fun j hj=>absurd hj (by omega)⟩,dD hB2 (Jr _) _ _⟩
theorem C_(h:PA w K p n nc es zs)(hn:n<=100000)(hK:K<150)(hK1:1<=K):
  Calls Tryz.prog 132 #[.slice p n nc] w (PnP (aC (tr zs)) K w):=by
 go_enter Tryz.func132,Tryz.ntmps132;go_wp2_with fail;refine(kB K p n nc es zs w h (by omega) (by omega)).mono ?_
 rintro r w1 ⟨p1,n1,es1,rfl,h1,hb1⟩;have hn1:=h1.zl;rw[af] at hn1
 have hle:=aj zs;have hzl:=h.zl;have hpt:Calls Tryz.prog 70 #[.slice p1 n1 n1] w1 (PtP (tr zs) K w1):=by
  rcases Jw n1 with h0|h0
  ·have e:tr zs=[]:=JB (by rw[af];omega)
   rw[e] at h1 ⊢
   subst h0;exact uW K hK hK1 (h1.pa (by omega))
  ·exact uU h1 (by omega) h0 hK hK1
 have HB:Hid (Below w.heap.size w w1):=hb1;clear h1 hn1 hle hzl h hb1;go_wp2_with fail;refine hpt.mono ?_;rintro r w2 ⟨u,p2,n2,es2,rfl,-,h2,hb2⟩;have hal:=ag (o:=.cells #[.bool u.s,.slice u.p u.n u.c] 50) (Jt w2.heap.size w2);have HR:Hid (PnP (aC (tr zs)) K w (.returned (.slice p2 n2 n2)) (w2.alloc (.cells #[.bool u.s,.slice u.p u.n u.c] 50))):=⟨p2,n2,es2,rfl,(h2.below hal).mono HB.out.size,ae (ae HB.out hb2) hal⟩;clear hpt h2;go_wp2;go_ret;exact HR.out
theorem jD{p:List Int}(hl:ys.length=m+1)(hy:gx ys m≠0)(h:∀t,gx (ax p ys) t=0):ad p=0:=by
 rcases Jw (ad p) with h0|h0
 ·exact h0
 ·exfalso
  obtain⟨a,ha⟩:∃a,ad p=a+1:=⟨ad p-1,by omega⟩
  have h1:=uP (p:=p) hl a ha;rw[h] at h1
  have h2:=aw p h0;rw[ha,JD] at h2
  exact Int.mul_ne_zero h2 hy h1.symm
variable {a b:List Int}
theorem GI(hl:ys.length=m+1)(hy:gx ys m≠0)(ha:ad a=a.length)(hb:ad b=b.length)(h:∀t,gx (ax a ys) t=gx (ax b ys) t):a=b:=by
 have h0:=jD (p:=pz (· - ·) a b) hl hy (fun t=>by
  have h1:=ow (a:=a) (b:=b) (c:=pz (· - ·) a b) (ys:=ys) (fun j=>by rw[dS _ rfl];omega) t
  have h2:=h t;omega)
 have h1:∀j,gx a j=gx b j:=fun j=>by
  have h2:=az (pz (· - ·) a b) j (by omega)
  rw[dS _ rfl] at h2
  omega
 have h3:a.length=b.length:=by rw[<-ha,<-hb];exact k_ h1
 exact dm _ _ h3 (fun j _=>h1 j)
theorem je(h:ad zs=zs.length):tr zs=zs:=by rw[tr,h,List.take_length]
theorem kU(a:Int)(zs:List Int):∀j,j<=zs.length->aB ((zs.map (a * ·)).take j)=a.natAbs*aB (zs.take j)
 |0,_=>by simp[aB]
 |j+1,hj=>by
  rw[gQ _ j (by simp;omega),gQ _ j (by omega),kU a zs j (by omega),cE (a * ·) (by simp)]
  show Nat.gcd _ _=_*Nat.gcd _ _
  rw[Int.natAbs_natCast,Int.natAbs_natCast,Int.natAbs_mul,Nat.gcd_mul_left]
theorem so(a:Int)(zs:List Int):aB (zs.map (a * ·))=a.natAbs*aB zs:=by
 have h:=kU a zs zs.length (Jr _);rwa [List.take_length,Jv (by simp)] at h
def prd(zs:List Int):Int:=if gx zs (zs.length-1)<0 then -(aB zs:Int) else aB zs
theorem cW(zs:List Int):aC zs=zs.map (· / prd zs):=rfl
theorem Cw(a:Int)(ha:a≠0)(zs:List Int)(h:gx zs (zs.length-1)≠0):prd (zs.map (a * ·))=a*prd zs:=by
 unfold prd;rw[so,List.length_map,cE (a * ·) (by simp)]
 generalize gx zs (zs.length-1)=l at *
 generalize aB zs=g;have e:((a.natAbs*g:Nat):Int)=(a.natAbs:Int)*(g:Int):=by push_cast;rfl
 rw[e];rcases Int.lt_or_gt_of_ne ha with h1|h1<;>rcases Int.lt_or_gt_of_ne h with h2|h2
 ·rw[if_neg (by have:=Int.mul_pos_of_neg_of_neg h1 h2;omega),if_pos h2]
  have:(a.natAbs:Int) = -a:=by omega
  rw[this,Int.neg_mul,Int.mul_neg]
 ·rw[if_pos (Int.mul_neg_of_neg_of_pos h1 h2),if_neg (by omega)]
  have:(a.natAbs:Int) = -a:=by omega
  rw[this,Int.neg_mul,Int.neg_neg]
 ·rw[if_pos (Int.mul_neg_of_pos_of_neg h1 h2),if_pos h2]
  have:(a.natAbs:Int)=a:=by omega
  rw[this,Int.mul_neg]
 ·rw[if_neg (by have:=Int.mul_pos h1 h2;omega),if_neg (by omega)]
  have:(a.natAbs:Int)=a:=by omega
  rw[this]
theorem AM(a:Int)(ha:a≠0)(zs:List Int)(h:ad zs=zs.length):aC (zs.map (a * ·))=aC zs:=by
 rcases Jw zs.length with h0|h0
 ·have:zs=[]:=JB h0
  subst this;rfl
 ·have h1:=aw zs (by omega)
  rw[h] at h1
  have hg:=l5 h h0;have hy:prd zs≠0:=by unfold prd;split<;>omega
  rw[cW,cW,Cw a ha zs h1,List.map_map];refine List.map_congr_left fun z hz=>?_
  obtain⟨i,hi,rfl⟩:=List.getElem_of_mem hz;have hd:prd zs∣zs[i]:=by
   have h2:=fj zs i;rw[bZ zs i hi] at h2
   unfold prd;split
   ·exact Int.neg_dvd.2 h2
   ·exact h2
  obtain⟨k,hk⟩:=hd;show a*zs[i]/(a*prd zs)=zs[i]/prd zs
  rw[hk,<-JG,Int.mul_ediv_cancel_left _ (Int.mul_ne_zero ha hy),Int.mul_ediv_cancel_left _ hy]
end Go.Proofs.YtdjjlghlcffflaaGreatDoor
namespace Go.Proofs.YtdjjlghlcffflaaGreatDoor.Md
open Go.Proofs.YtdjjlghlcffflaaGreatDoor
open Go.Proofs.YtdjjlghlcffflaaGreatDoor.Cp (su mw my cU fB)
variable {g:Nat}
theorem EP{p:Int}(hp:Gs.Pri p){G A B d:Nat->Int}(hG:¬p∣G g)(hGz:∀t,g<t->G t=0)(hA:Mp p G A)(hB:Mp p G B)
  (hd:∀I,Idl p I->((I A/\I B)<->I d)) (h1:p∣d g-1) (hz:∀t,g<t->p∣d t) (t:Nat):p∣G t-G g*d t:=by
 have hp1:¬p∣d g:=fun h=>by
  have h2:p∣1:=by
   have:=Int.dvd_sub h h1;rwa [show d g-(d g-1)=1 by omega] at this
  have h3:=Int.natAbs_dvd_natAbs.2 h2;have h4:=Nat.le_of_dvd (by decide) h3
  have h5:=hp.1;omega
 have h:=(hd _ (ov p G)).1 ⟨hA,hB⟩;rcases sy hp hG (fun t ht=>by rw[hGz t ht];exact Int.dvd_zero p) h with h2|⟨q,e,he,hq,h3,h4,h5⟩
 ·exact absurd (h2 g) hp1
 ·obtain rfl:e=0:=by
   rcases Jw e with h6|h6
   ·exact h6
   ·exact absurd (hz (e+g) (by omega)) h4
  have hc:∀t,p∣d t-q 0*G t:=fun t=>by
   have h6:=oV (p:=p) (f:=fun k=>q k*G (t-k)) 0 (t+1) (by omega) fun i hi hne=>Int.dvd_mul_of_dvd_left (hq i (by omega))
   have h7:p∣cvf q G t-q 0*G t:=h6;have h8:=Int.dvd_add (h3 t) h7;rwa [show d t-cvf q G t+(cvf q G t-q 0*G t)=d t-q 0*G t by omega] at h8
  obtain⟨x,hx⟩:=hc t;obtain⟨y,hy⟩:=hc g;obtain⟨z,hzz⟩:=h1;have e1:d t=q 0*G t+p*x:=by omega
  have e2:q 0*G g=1+p*(z-y):=by rw[Int.mul_sub];omega
  refine⟨-((z-y)*G t+G g*x),?_⟩;rw[e1,JF,<-JG,JI (G g) (q 0),e2,Int.add_mul,Int.one_mul,Int.mul_neg,JF,JG,JH (G g)];omega
structure GG(A B H a b:List Int):Prop where
 hl:ad H=H.length
 h0:0<gx H (H.length-1)
 hP:Gs.Prm H
 aP:Gs.Prm a
 bP:Gs.Prm b
 hA:∀t,gx A t=cvf (gx a) (gx H) t
 hB:∀t,gx B t=cvf (gx b) (gx H) t
 cop:Cop (gx a) (gx b)
theorem sJ{e f:List Int}{s:Int}(h:Gs.Prm e)(hf:∀t,gx e t=s*gx f t):Gs.Prm f:=fun p hp=>h p fun t=>by
 rw[hf t];exact Int.dvd_mul_of_dvd_right (hp t)
variable {a H:List Int}
theorem BB{a' H':List Int}{s:Int}(hs:s*s=1)(ha:∀t,gx a' t=s*gx a t)(hH:∀t,gx H' t=s*gx H t)(t:Nat):cvf (gx a') (gx H') t=cvf (gx a) (gx H) t:=by
 unfold cvf;refine cU _ fun i _=>?_
 show gx a' i*gx H' (t-i)=_
 rw[ha,hH];have:s*gx a i*(s*gx H (t-i))=(s*s)*(gx a i*gx H (t-i)):=by
  rw[JG,JG,JH (gx a i)]
 rw[this,hs,Int.one_mul]
variable {A:List Int}
theorem DL{B:List Int}(hA:Gs.Prm A)(hB:Gs.Prm B):∃H a b:List Int,GG A B H a b:=by
 obtain⟨G,a,b,h1,h2,h3⟩:=Il _ A B rfl (cM hA) (cM hB);obtain⟨aP,GP⟩:=xp hA h1;obtain⟨bP,-⟩:=xp hB h2;have hG:=cM GP;have htop:=aw G hG;obtain⟨s,hs,hs1,hsp⟩:∃s:Int,s*s=1/\(s=1\/s = -1)/\0<s*gx G (ad G-1):=by
  rcases Int.lt_or_gt_of_ne htop with h|h
  ·exact⟨-1,rfl,.inr rfl,by omega⟩
  ·exact⟨1,rfl,.inl rfl,by omega⟩
 have sm:∀(l:List Int) (t:Nat),gx (l.map (s * ·)) t=s*gx l t:=fun l t=>Gs.eM _ (JC s) l t
 have sb:∀(l:List Int) (t:Nat),gx l t=s*gx (l.map (s * ·)) t:=fun l t=>by rw[sm,<-JG,hs,Int.one_mul]
 have hH:∀t,gx ((tr G).map (s * ·)) t=s*gx G t:=fun t=>by rw[sm,aN]
 have hl:((tr G).map (s * ·)).length=ad G:=by rw[List.length_map,af]
 refine⟨(tr G).map (s * ·),a.map (s * ·),b.map (s * ·),?_,?_,?_,sJ aP (sb a),sJ bP (sb b),fun t=>?_,fun t=>?_,fun d N hN hI=>h3 d N hN fun I H hS hd=>?_⟩
 ·rw[hl]
  exact aX _ _ (fun j hj=>by rw[hH,az G j hj,JC]) (.inr (by rw[hH];omega))
 ·rw[hl,hH];exact hsp
 ·exact sJ (s:=s) GP fun t=>by rw[hH,<-JG,hs,Int.one_mul]
 ·rw[BB hs (sm a) hH,h1,Sk.ao,b9]
 ·rw[BB hs (sm b) hH,h2,Sk.ao,b9]
 ·obtain⟨i1,i2⟩:=hI I H hS hd
  exact⟨H.eq (H.mul s i1) (sb a),H.eq (H.mul s i2) (sb b)⟩
variable {b:List Int}
theorem GG.uniq{B e:List Int}(h:GG A B H a b){R:Int}(hR:R≠0)(hbz:∀I,Idl 0 I->I (gx a)->I (gx b)->I (cst R))(hP:Gs.Prm e)(hl:ad e=e.length)(h0:0<gx e (e.length-1))(dA:Dvd A e)(dB:Dvd B e)(hd:ad H<=ad e):e=H:=by
 have q1:∀{F:List Int},Dvd F e->QM (gx e) (gx F):=fun⟨q,hq⟩=>⟨1,gx q,q.length,by decide,fun t ht=>ak q _ (Jr _) t ht,fun t=>by rw[Int.one_mul,hq t,Sk.ao,b9]⟩
 have hQ:=tC h.hA h.hB hR hbz (q1 dA) (q1 dB);obtain⟨s,hs,he⟩:=Cx h.hP hP (cM h.hP) hQ hd;have hs1:s=1\/s = -1:=by omega
 have ht:ad H=ad e:=by
  refine aX _ _ (fun j hj=>by rw[he,az e j hj,JC]) (.inr ?_)
  rw[he,hl];rcases hs1 with rfl|rfl<;>omega
 have hle:H.length=e.length:=by rw[<-h.hl,ht,hl]
 have h1:=h.h0;rw[hle,he] at h1
 have hs2:s=1:=by
  rcases hs1 with rfl|rfl
  ·rfl
  ·omega
 exact dm _ _ hle.symm fun t _=>by rw[he,hs2,Int.one_mul]
theorem qQ{F q:List Int}(h:∀t,gx F t=gx (ax q a) t)(hF:0<ad F)(hn:ad F<=13)(s:Nat):zb (gx a s)<=ad a+pb (tr F)+Lib.bitLen (ad F):=by
 have hq0:0<ad q:=by
  rcases Jw (ad q) with h0|h0
  ·exfalso
   have h1:=aw F hF;rw[h,Sk.ao,Sk.ji fun i=>az q i (by omega)] at h1
   exact h1 rfl
  ·exact h0
 obtain⟨m,hm⟩:∃m,ad q=m+1:=⟨ad q-1,by omega⟩
 have hl:(tr q).length=m+1:=by rw[af,hm]
 have hy:gx (tr q) m≠0:=by
  have:=aw q hq0;rwa [hm,JD,<-aN q m] at this
 have h2:∀t,gx F t=gx (ax a (tr q)) t:=fun t=>by
  rw[h t,jC,Sk.ao,Sk.ao];exact Sk.a_ (fun _=>rfl) (fun i=>(aN q i).symm) t
 rcases dV hl hy h2 with h3|⟨c,h3,h4,-⟩
 ·omega
 ·have hQ:∀i,ad a<=i->gx a i=0:=fun i hi=>az a i hi
  rcases Ju s (ad a) with hs|hs
  ·refine xy (zs:=tr F) (ys:=tr q) (m:=m) (k:=ad a) (n:=ad F) (Q:=gx a) (by omega) (by omega) (by omega) (by omega) (by rw[af];exact Jr _) (by omega) hy hQ (fun t=>?_) s hs
   have e2:=jY a (tr q) t (ad a);have e3:=iX a (tr q) t (ad a) hQ (t+1);rw[aN,h2 t,cI,<-e2,Nat.add_comm (t+1),e3,sL]
  ·rw[hQ s hs,pY];exact Jz _
variable {zs:List Int} {K:Nat}
theorem xk(h:∀t,zb (gx zs t)<=K):pb zs<=K:=by
 have:=rE zs K (fun j _=>h j) zs.length (Jr _)
 rwa [List.take_length] at this
variable {X Z:List Int} {c:Int}
theorem yW(hX:∀t,c*gx A t=cvf (gx X) (gx Z) t)(hA:∀t,gx A t=cvf (gx a) (gx H) t)(aP:Gs.Prm a)(hZ:0<ad Z)(hq:QM (gx Z) (gx H)):Dvd X a:=by
 obtain⟨k,w,N,hk,hN,hw⟩:=hq;have hw':∀t,k*gx H t=Sk.cv (gx (lst N w)) (gx Z) t:=fun t=>by
  rw[hw t,b9];exact Sk.a_ (fun i=>(om hN i).symm) (fun _=>rfl) t
 generalize lst N w=w' at *
 obtain⟨P,hP⟩:∃P,P=ax a w':=⟨_,rfl⟩;have gP:∀t,gx P t=Sk.cv (gx a) (gx w') t:=fun t=>by rw[hP,Sk.ao]
 have key:∀t,k*Sk.cv (gx X) (gx Z) t=c*Sk.cv (gx P) (gx Z) t:=fun t=>by
  have e1:Sk.cv (gx P) (gx Z) t=Sk.cv (gx a) (Sk.cv (gx w') (gx Z)) t:=by
   rw[Sk.kg];exact Sk.a_ gP (fun _=>rfl) t
  have e2:Sk.cv (gx a) (Sk.cv (gx w') (gx Z)) t=k*Sk.cv (gx a) (gx H) t:=by
   rw[Sk.a_ (a:=gx a) (b:=gx a) (h:=fun i=>k*gx H i+0*gx H i) (fun _=>rfl) (fun i=>by rw[<-hw' i];omega),Sk.tD]
   omega
  rw[e1,e2,<-b9,<-hX t,hA t,b9,JH]
 obtain⟨D,hD⟩:∃D:List Int,∀t,gx D t=k*gx X t+(-c)*gx P t:=⟨Sk.lof (X.length+P.length) fun t=>k*gx X t+(-c)*gx P t,Sk.BX _ _ fun t ht=>by
  rw[ak X _ (Jr _) t (by omega),ak P _ (Jr _) t (by omega)];omega⟩
 obtain⟨m,hm⟩:∃m,ad Z=m+1:=⟨ad Z-1,by omega⟩
 have hz:∀t,gx (ax D (tr Z)) t=0:=fun t=>by
  rw[Sk.ao,Sk.a_ hD (fun i=>aN Z i),Sk.iM,key t,Int.neg_mul]
  omega
 have htop:gx (tr Z) m≠0:=by
  have:=aw Z hZ;rwa [hm,JD,<-aN Z m] at this
 have hD0:=jD (by rw[af,hm]) htop hz
 have hk2:∀t,k*gx X t=c*gx P t:=fun t=>by
  have h1:=hD t;rw[az D t (by omega),Int.neg_mul] at h1
  omega
 refine kS (d:=gx a) (k:=1) aP (fun t=>(Int.one_mul _).symm) ⟨k,fun t=>c*gx w' t,w'.length,hk,fun t ht=>by show c*gx w' t=0;rw[ak w' _ (Jr _) t ht,JC],fun t=>?_⟩
 rw[hk2 t,eY,hP,jC,Sk.ao,b9]
theorem wa(h:Dvd X a)(hX:0<ad X)(h5:ad X<=5)(hb:∀t,zb (gx X t)<=64):(∀t,(gx a t).natAbs<=2^72)/\ad a<=5:=by
 obtain⟨q,hq⟩:=h;have hle:ad a<=ad X:=by
  rcases Jw (ad a) with h0|h0
  ·omega
  ·obtain⟨m,hm⟩:∃m,ad a=m+1:=⟨ad a-1,by omega⟩
   have htop:gx (tr a) m≠0:=by
    have:=aw a h0;rwa [hm,JD,<-aN a m] at this
   have h2:∀t,gx X t=gx (ax q (tr a)) t:=fun t=>by
    rw[hq t,Sk.ao,Sk.ao];exact Sk.a_ (fun _=>rfl) (fun i=>(aN a i).symm) t
   rcases dV (by rw[af,hm]) htop h2 with h3|⟨c,h3,h4,-⟩
   ·omega
   ·omega
 refine⟨fun t=>?_,by omega⟩
 have h1:=qQ hq hX (by omega) t
 have h2:pb (tr X)<=64:=xk fun t=>by rw[aN];exact hb t
 have h3:∀n,n<=5->Lib.bitLen n<=3:=by decide
 have h4:=h3 _ h5;have h5:=(lC (gx a t)).2.1;have h6:(2:Int)^zb (gx a t)<=2^72:=eQ (by omega)
 have h7:((2:Int)^72)=((2^72:Nat):Int):=rfl;omega
def rb:Nat:=2116
theorem Ia:∀m,m<=4->Bd 4 4 m 72 72<=rb:=by decide +kernel
theorem F3(ha:∀t,(gx a t).natAbs<=2^72)(hb:∀t,(gx b t).natAbs<=2^72)(ta:ad a<=5)(tb:ad b<=5)(b0:0<ad b)(hc:Cop (gx a) (gx b)):∃R:Int,R≠0/\R.natAbs<=2^rb/\∀I,Idl 0 I->I (gx a)->I (gx b)->I (cst R):=by
 obtain⟨R,h1,h2,h3⟩:=bez 4 4 (ad b-1) 72 72 (gx a) (gx b) (by omega) (fun t ht=>az a t (by omega)) (fun t ht=>az b t (by omega)) (aw b b0) ha hb hc
 exact⟨R,h1,JA h2 (Nat.pow_le_pow_right (by decide) (Ia _ (by omega))),h3⟩
end Go.Proofs.YtdjjlghlcffflaaGreatDoor.Md
