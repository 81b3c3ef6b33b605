/- Own. -/
import Derived.Test.YtdjjlghlcffflaaGreatDoorUa
import Derived.Deep.DeepCutAuto
set_option linter.unusedVariables false
set_option linter.unusedSimpArgs false
set_option maxHeartbeats 8000000
set_option maxRecDepth 100000
namespace Go.Proofs.YtdjjlghlcffflaaGreatDoor
open Go.RowKit
def Hw(g o n:Nat)(Z R vs:List Int)(d:Int)(w:World)(e:Ending)(w':World):Prop:=
 ∃(R':List Int) (lk:Bool),e=.returned (.bool lk)/\R'.length=n+1/\U32 R'/\Hid (val R'=val R-d*val vs+(if lk then pw (n+1) else 0))/\Row w' g 97 .u32 (mid Z o R')/\w.grownBy w' (some g)
theorem vC(g o cap:Nat)(Z R:List Int)(p:Option Addr)(n nc:Nat)(vs:List Int)(d:Int)(w:World)
  (hz:o+(n+1)<=Z.length) (hcap:cap<=1099511627776) (hn:n+1<=cap) (hRl:R.length=n+1) (hR:Row w g 97 .u32 (mid Z o R)) (hU:U32 R) (hv:vs.length=n)
  (hV:Rd w p .u32 vs) (hVu:U32 vs) (hoff:0<n->Off g p) (hd0:0<=d) (hd1:d<4294967296):
  Calls Tryz.prog 213 #[.slice (some ⟨g,o,none⟩) (n+1) cap,.slice p n nc,.int .u64 d] w (Hw g o n Z R vs d w):=by
 have HN:Hid (R.length=n+1/\vs.length=n):=⟨hRl,hv⟩;clear hRl hv;go_enter Tryz.func213,Tryz.ntmps213;go_wp2;go_loopw [7,15] (fun cv iv wr=>∃(i:Nat) (c:Int) (T:List Int),i<=n/\iv=.int .i64 i/\cv=.int .u64 c/\0<=c/\c<4294967296/\Hid (T.length=n+1/\U32 T/\val T=val R-d*val (vs.take i)+pw i*c/\Row wr g 97 .u32 (mid Z o T)/\w.grownBy wr (some g))) (fun _ iv _=>n-(intOf iv).toNat)
 case atStart=>exact⟨0,0,R,Jz _,rfl,rfl,by decide,by decide,HN.out.1,hU,by simp[val],hR,ck _ _⟩
 case round=>
  obtain⟨i,c,T,hi,rfl,rfl,hc0,hc1,HT⟩:=hrel;by_cases hlt:i<n
  ·have hltI:(i:Int)<(n:Int):=by omega
   obtain⟨hl,hu,hval,hr,hg⟩:=HT.out;obtain⟨b,off,rfl,hcell⟩:=(hV.dw hg (hoff (by omega))) (by have:=HN.out;omega)
   have hcv:=hcell i (by have:=HN.out;omega)
   have hct:=hr.gC (by omega) i (by omega)
   have hfz:=hr.frozen (o+i);obtain⟨bt0,bt1⟩:=hu i;obtain⟨bm0,bm1⟩:=wW (⟨hd0,hd1⟩:0<=d/\d<4294967296) (hVu i);have bm2:d*gx vs i<=18446744065119617025:=bm1;obtain⟨bv0,bv1⟩:=hVu i;have hi1:(i:Int)<(n:Int)+1:=by omega
   clear hl hu hval hr hg hcell;by_cases hb:gx T i<(d*gx vs i+c)%4294967296
   ·have q1:IntKind.u32.wrap (gx T i-(d*gx vs i+c)%4294967296)=gx T i-(d*gx vs i+c)%4294967296+4294967296:=by rw[IntKind.wrap_u32'];omega
    go_wp2;obtain⟨hl,hu,hval,hr,hg⟩:=HT.out;refine⟨⟨i+1,_,T.set i (gx T i-(d*gx vs i+c)%4294967296+4294967296),by omega,by go_num,rfl,by omega,by omega,by rw[List.length_set];exact hl,dy hu _ (by omega),?_,hr.eP (by omega) i (by omega) _,aL hg _ _⟩,by simp[intOf];omega⟩
    rw[h_ T _ _ (by omega),aD vs i (by have:=HN.out;omega),bE,hval]
    have e:=iL (pw i) (d*gx vs i+c);have e2:d*(val (vs.take i)+pw i*gx vs i)=d*val (vs.take i)+pw i*(d*gx vs i):=by
     rw[JF];congr 1;simp only[JG,JH]
    rw[e2];simp only[JF,Int.mul_sub] at e ⊢
    omega
   ·have q1:IntKind.u32.wrap (gx T i-(d*gx vs i+c)%4294967296)=gx T i-(d*gx vs i+c)%4294967296:=by rw[IntKind.wrap_u32'];omega
    go_wp2;obtain⟨hl,hu,hval,hr,hg⟩:=HT.out;refine⟨⟨i+1,_,T.set i (gx T i-(d*gx vs i+c)%4294967296),by omega,by go_num,rfl,by omega,by omega,by rw[List.length_set];exact hl,dy hu _ (by omega),?_,hr.eP (by omega) i (by omega) _,aL hg _ _⟩,by simp[intOf];omega⟩
    rw[h_ T _ _ (by omega),aD vs i (by have:=HN.out;omega),bE,hval]
    have e:=iL (pw i) (d*gx vs i+c);have e2:d*(val (vs.take i)+pw i*gx vs i)=d*val (vs.take i)+pw i*(d*gx vs i):=by
     rw[JF];congr 1;simp only[JG,JH]
    rw[e2];simp only[JF,Int.mul_sub] at e ⊢
    omega
  ·obtain rfl:i=n:=by omega
   have hltI:¬(i:Int)<(i:Int):=by omega
   obtain⟨hl,hu,hval,hr,hg⟩:=HT.out;have hct:=hr.gC (by omega) i (by omega)
   have hfz:=hr.frozen (o+i);obtain⟨bt0,bt1⟩:=hu i;clear hl hu hval hr hg;by_cases hb:gx T i<c
   ·have q1:IntKind.u32.wrap (gx T i-c)=gx T i-c+4294967296:=by rw[IntKind.wrap_u32'];omega
    go_wp2;go_ret;obtain⟨hl,hu,hval,hr,hg⟩:=HT.out;refine⟨T.set i (gx T i-c+4294967296),true,rfl,by rw[List.length_set];exact hl,dy hu _ (by omega),?_,hr.eP (by omega) i (by omega) _,aL hg _ _⟩
    show _=_
    rw[h_ T _ _ (by omega),hval,Jv (by have:=HN.out;omega),if_pos rfl,bE]
    simp only[JF,Int.mul_sub];omega
   ·have q1:IntKind.u32.wrap (gx T i-c)=gx T i-c:=by rw[IntKind.wrap_u32'];omega
    go_wp2;go_ret;obtain⟨hl,hu,hval,hr,hg⟩:=HT.out;refine⟨T.set i (gx T i-c),false,rfl,by rw[List.length_set];exact hl,dy hu _ (by omega),?_,hr.eP (by omega) i (by omega) _,aL hg _ _⟩
    show _=_
    rw[h_ T _ _ (by omega),hval,Jv (by have:=HN.out;omega),if_neg (by decide)]
    simp only[Int.mul_sub];omega
structure Hd(P lu lv u0 u1 u2 nx hd U V:Int):Prop where
 p:0<P
 lu0:0<=lu
 lu1:lu<P
 lv0:0<=lv
 lv1:lv<P
 a0:0<=u0/\u0<4294967296
 a1:0<=u1/\u1<4294967296
 a2:0<=u2/\u2<4294967296
 b0:0<=nx/\nx<4294967296
 b1:1<=hd/\hd<4294967296
 u:U=lu+P*(u0+4294967296*(u1+4294967296*u2))
 v:V=lv+P*(nx+4294967296*hd)
variable {P:Int}
theorem di{a b:Int}(hP:0<=P)(h:a<=b):P*a<=P*b:=Jx h hP
variable {lu lv u0 u1 u2 nx hd U V:Int}
theorem Hd.vpos(h:Hd P lu lv u0 u1 u2 nx hd U V):P*4294967296<=V:=by
 have:=di (Int.le_of_lt h.p) (show(4294967296:Int)<=nx+4294967296*hd by have:=h.b0;have:=h.b1;omega)
 have:=h.v;have:=h.lv0;omega
theorem Hd.vp(h:Hd P lu lv u0 u1 u2 nx hd U V):0<V:=by
 have:=h.vpos;have:=h.p;omega
theorem Hd.ult(h:Hd P lu lv u0 u1 u2 nx hd U V){k:Int}(hk:u0+4294967296*(u1+4294967296*u2)+1<=k):U<P*k:=by
 have e:=di (Int.le_of_lt h.p) hk;rw[JF,Int.mul_one] at e
 have:=h.u;have:=h.lu1;omega
theorem Hd.q0(h:Hd P lu lv u0 u1 u2 nx hd U V):0<=U/V/\(U/V)*V<=U/\U<(U/V+1)*V:=by
 have hV:=h.vp;have hU:0<=U:=by
  have:=JJ (Int.le_of_lt h.p) (show 0<=u0+4294967296*(u1+4294967296*u2) by have:=h.a0;have:=h.a1;have:=h.a2;omega)
  have:=h.u;have:=h.lu0;omega
 refine⟨Int.ediv_nonneg hU (by omega),Int.ediv_mul_le U (by omega),Int.lt_ediv_add_one_mul_self U hV⟩
theorem Hd.top(h:Hd P lu lv u0 u1 u2 nx hd U V)(hlt:U<4294967296*V):u2<=hd:=by
 rcases Int.lt_or_le hd u2 with hc|hc
 ·exfalso
  have e1:P*(4294967296*(4294967296*(hd+1)))<=P*(u0+4294967296*(u1+4294967296*u2)):=di (Int.le_of_lt h.p) (by have:=h.a0;have:=h.a1;omega)
  have e2:P*(nx+4294967296*hd+1)<=P*(4294967296*(hd+1)):=di (Int.le_of_lt h.p) (by have:=h.b0;omega)
  rw[JF P (nx+4294967296*hd) 1,Int.mul_one] at e2
  have e3:P*(4294967296*(4294967296*(hd+1)))=4294967296*(P*(4294967296*(hd+1))):=by rw[JH]
  have:=h.u;have:=h.v;have:=h.lu0;have:=h.lv1;omega
 ·exact hc
theorem Hd.first(h:Hd P lu lv u0 u1 u2 nx hd U V):U/V<=(u1+4294967296*u2)/hd:=by
 obtain⟨q0,q1,q2⟩:=h.q0;have hh:=h.b1;apply Int.le_ediv_of_mul_le (by omega)
 rcases Int.lt_or_le (u1+4294967296*u2) (U/V*hd) with hc|hc
 ·exfalso
  have e1:U<P*(4294967296*(U/V*hd)):=h.ult (by have:=h.a0;omega)
  have e2:P*(4294967296*hd)<=V:=by
   have:=di (Int.le_of_lt h.p) (show 4294967296*hd<=nx+4294967296*hd by have:=h.b0;omega)
   have:=h.v;have:=h.lv0;omega
  have e3:=di q0 e2;have e4:U/V*(P*(4294967296*hd))=P*(4294967296*(U/V*hd)):=by
   rw[JH,JH (U/V) 4294967296]
  omega
 ·exact hc
variable {d:Int}
theorem Hd.less(h:Hd P lu lv u0 u1 u2 nx hd U V)(hd0:0<=d)(hc:u0+4294967296*(u1+4294967296*u2)<d*(nx+4294967296*hd)):U/V<d:=by
 obtain⟨q0,q1,q2⟩:=h.q0;rcases Int.lt_or_le (U/V) d with hq|hq
 ·exact hq
 ·exfalso
  have e1:U<P*(d*(nx+4294967296*hd)):=h.ult (by omega)
  have e2:P*(nx+4294967296*hd)<=V:=by have:=h.v;have:=h.lv0;omega
  have e3:=di hd0 e2;have e4:d*(P*(nx+4294967296*hd))=P*(d*(nx+4294967296*hd)):=JH ..;have e5:d*V<=U/V*V:=Jy hq (Int.le_of_lt h.vp);omega
theorem Hd.rD(h:Hd P lu lv u0 u1 u2 nx hd U V)(hd0:0<=d)(hd1:d<4294967296)(hc:d*(nx+4294967296*hd)<=u0+4294967296*(u1+4294967296*u2)):d<=U/V+1:=by
 have e1:=di (Int.le_of_lt h.p) hc;have e4:d*(P*(nx+4294967296*hd))=P*(d*(nx+4294967296*hd)):=JH ..;have e2:d*V=d*lv+d*(P*(nx+4294967296*hd)):=by rw[h.v,JF]
 have e3:d*lv<=4294967296*P:=by
  have a1:d*lv<=d*P:=di hd0 (Int.le_of_lt h.lv1);have a2:d*P<=4294967296*P:=Jy (Int.le_of_lt hd1) (Int.le_of_lt h.p);omega
 have e5:=h.vpos;have e6:=h.u;have e7:=h.lu0;have e8:(d-1)*V<=U:=by rw[Int.sub_mul,Int.one_mul];omega
 have:=Int.le_ediv_of_mul_le h.vp e8;omega
variable {vs:List Int}
theorem Ja{us:List Int}(m:Nat)(hu:us.length=m+3)(hv:vs.length=m+2)(hU:U32 us)(hV:U32 vs)(ht:gx vs (m+1)≠0):Hd (pw m) (val (us.take m)) (val (vs.take m)) (gx us m) (gx us (m+1)) (gx us (m+2)) (gx vs m) (gx vs (m+1)) (val us) (val vs):=by
 have l1:=bN (an hU m);have l2:=bN (an hV m);rw[List.length_take,Nat.min_eq_left (by omega)] at l1 l2
 refine⟨bu m,ar (an hU m),l1,ar (an hV m),l2,hU m,hU (m+1),hU (m+2),hV m,⟨by have:=hV (m+1);omega,(hV (m+1)).2⟩,?_,?_⟩
 ·have e:val us=val (us.take (m+3)):=by rw[Jv (by omega)]
  have p1:pw (m+1)=4294967296*pw m:=bE m;have p2:pw (m+2)=4294967296*(4294967296*pw m):=by rw[bE,bE]
  rw[e,aD us (m+2) (by omega),aD us (m+1) (by omega),aD us m (by omega),p1,p2]
  simp only[JF,JG,JH (pw m)];omega
 ·have e:val vs=val (vs.take (m+2)):=by rw[Jv (by omega)]
  rw[e,aD vs (m+1) (by omega),aD vs m (by omega),bE]
  simp only[JF,JG,JH (pw m)];omega
def I6(us vs:List Int)(w:World)(e:Ending)(w':World):Prop:=
 ∃d:Int,e=.returned (.int .u64 d)/\0<=d/\d<4294967296/\Hid (val us/val vs<=d/\d<=val us/val vs+1)/\Below w.heap.size w w'
theorem BV(b1 o1 b2 o2 m ucap nc:Nat)(us vs:List Int)(w:World)(hul:us.length=m+3)(hvl:vs.length=m+2)(hm:m<=1000000000)
  (hX:Rd w (some ⟨b1,o1,none⟩) .u32 us) (hU:U32 us) (hY:Rd w (some ⟨b2,o2,none⟩) .u32 vs) (hV:U32 vs) (ht:gx vs (m+1)≠0) (hlt:val us<4294967296*val vs):
  Calls Tryz.prog 212 #[.slice (some ⟨b1,o1,none⟩) (m+3) ucap,.slice (some ⟨b2,o2,none⟩) (m+2) nc] w (I6 us vs w):=by
 have HD:Hid (Hd (pw m) (val (us.take m)) (val (vs.take m)) (gx us m) (gx us (m+1)) (gx us (m+2)) (gx vs m) (gx vs (m+1)) (val us) (val vs)):=Ja m hul hvl hU hV ht;have HLT:Hid (val us<4294967296*val vs):=hlt;have htop:gx us (m+2)<=gx vs (m+1):=HD.out.top hlt;obtain⟨b1',o1',e1,hc1⟩:=hX (by omega)
 cases e1
 obtain⟨b2',o2',e2,hc2⟩:=hY (by omega)
 cases e2
 have u0:=hc1 m (by omega)
 have u1:=hc1 (m+1) (by omega)
 have u2:=hc1 (m+2) (by omega)
 have v0:=hc2 m (by omega)
 have v1:=hc2 (m+1) (by omega)
 obtain⟨a00,a01⟩:=hU m;obtain⟨a10,a11⟩:=hU (m+1);obtain⟨a20,a21⟩:=hU (m+2);obtain⟨c00,c01⟩:=hV m;obtain⟨c10,c11⟩:=hV (m+1);have hhd1:1<=gx vs (m+1):=by omega
 have hj:=jW (gx us (m+2)) (gx us (m+1)) a20 a21 a10 a11;have hh0:(gx vs (m+1)==0)=false:=beq_eq_false_iff_ne.2 ht;have HU0:Hid (w.cell? ⟨b1,o1+m,none⟩=some (.int .u32 (gx us m))):=u0;clear hc1 hc2 hul hvl hlt ht hX hY;go_enter Tryz.func212,Tryz.ntmps212;go_wp2;go_quiet (fail);have hB1:=below_drewN (Jt w.heap.size w) nq;have u0':(w.drewN nq).cell? ⟨b1,o1+m,none⟩=some (.int .u32 (gx us m)):=u0;have v0':(w.drewN nq).cell? ⟨b2,o2+m,none⟩=some (.int .u32 (gx vs m)):=v0;have v1':(w.drewN nq).cell? ⟨b2,o2+(m+1),none⟩=some (.int .u32 (gx vs (m+1))):=v1;generalize w.drewN nq=w1 at *
 clear u0 u1 u2 v0 v1 hj;go_wp2;go_quiet (fail);have hB2:=below_drewN hB1 nq;have u0:(w1.drewN nq).cell? ⟨b1,o1+m,none⟩=some (.int .u32 (gx us m)):=u0';generalize w1.drewN nq=w2 at *
 clear u0' v0' v1';generalize hT:gx us (m+2)*4294967296+gx us (m+1)=T at *
 generalize hhd:gx vs (m+1)=hd at *
 generalize hnx:gx vs m=nx at *
 have HT:Hid (gx us (m+2)*4294967296+gx us (m+1)=T/\gx vs (m+1)=hd/\gx vs m=nx):=⟨hT,hhd,hnx⟩;have hT0:0<=T:=by omega
 have hT1:T<18446744073709551616:=by omega
 have hle:gx us (m+2)<=hd:=htop;clear htop;have HQ:Hid (val us/val vs<4294967296/\val us/val vs<=T/hd):=by
  have h:=HD.out;refine⟨?_,?_⟩
  ·have h1:=h.q0.2.1
   rcases Int.lt_or_le (val us/val vs) 4294967296 with hc|hc
   ·exact hc
   ·exfalso
    have h2:4294967296*val vs<=val us/val vs*val vs:=Jy hc (Int.le_of_lt h.vp);have:=HLT.out;omega
  ·have h1:=h.first
   have e:gx us (m+1)+4294967296*gx us (m+2)=T:=by omega
   rwa [e] at h1
 clear hT hhd hnx;go_upto_region 4 with fail
 go_cut [9] (fun dv w'=>∃d:Int,dv=.int .u64 d/\0<=d/\d<4294967296/\d*hd<=T/\Hid (val us/val vs<=d/\T-d*hd<8589934592)/\w'=w2)
 case first=>
  have hq0:0<=T/hd:=Int.ediv_nonneg hT0 (by omega)
  have hq1:=Int.ediv_mul_le T (show hd≠0 by omega)
  have hq2:=Int.lt_ediv_add_one_mul_self T (show 0<hd by omega)
  rw[Int.add_mul,Int.one_mul] at hq2
  have HE:Hid (T/hd*hd<=T/\T<T/hd*hd+hd):=⟨hq1,hq2⟩;clear hq1 hq2;by_cases hmin:T/hd<=4294967295
  ·have hmn:min (T/hd) 4294967295=T/hd:=Int.min_eq_left hmin
   go_wp2;go_meet;exact⟨T/hd,rfl,hq0,by omega,HE.out.1,⟨HQ.out.2,by have:=HE.out.2;omega⟩,rfl⟩
  ·have hmn:min (T/hd) 4294967295=4294967295:=Int.min_eq_right (by omega)
   go_wp2;go_meet;have e1:4294967296*hd<=T/hd*hd:=Jy (by omega) (by omega)
   exact⟨4294967295,rfl,by decide,by decide,by have:=HE.out.1;omega,⟨by have:=HQ.out.1;omega,by have:=HT.out.1;omega⟩,rfl⟩
 case rest=>
  obtain⟨d,rfl,hd0,hd1,hdT,HDQ,rfl⟩:=hcut;have hdp:0<=d*hd:=JJ hd0 (by omega)
  have w1':IntKind.u64.wrap (d*hd)=d*hd:=by rw[IntKind.wrap_u64];omega
  have w2':IntKind.u64.wrap (T-d*hd)=T-d*hd:=by rw[IntKind.wrap_u64];omega
  go_wp2;go_loopw [9,10] (fun dv rv wr=>∃(d r:Int),dv=.int .u64 d/\rv=.int .u64 r/\0<=d/\d<4294967296/\0<=r/\r<8589934592/\Hid (T=d*hd+r/\val us/val vs<=d)/\Hid (Below w.heap.size w wr)) (fun dv _ _=>(intOf dv).toNat)
  case atStart=>exact⟨d,T-d*hd,rfl,rfl,hd0,hd1,by omega,HDQ.out.2,⟨by omega,HDQ.out.1⟩,hB2⟩
  case round=>
   obtain⟨d2,r,rfl,rfl,hd20,hd21,hr0,hr1,HR,HBr⟩:=hrel;have g0:=cell_later (show Below w.heap.size w wr from HBr.out) HU0.out
   obtain⟨bm0,bm1⟩:=wW (⟨hd20,hd21⟩:0<=d2/\d2<4294967296) (⟨c00,c01⟩:0<=nx/\nx<4294967296);have x1:IntKind.u64.wrap (d2*nx)=d2*nx:=by rw[IntKind.wrap_u64];omega
   have hU2:Hid (gx us m+4294967296*(gx us (m+1)+4294967296*gx us (m+2))=gx us m+4294967296*(d2*hd+r)):=by
    have e1:=HT.out.1;have e2:=HR.out.1;show _=_
    omega
   have hV2:Hid (d2*(nx+4294967296*hd)=d2*nx+4294967296*(d2*hd)):=by
    show _=_
    rw[JF,JH]
   by_cases hr:r<4294967296
   ·have x2:IntKind.u64.wrap (r*4294967296)=r*4294967296:=by rw[IntKind.wrap_u64];omega
    have hj:=jW r (gx us m) hr0 hr a00 a01;by_cases hc:r*4294967296+gx us m<d2*nx
    ·have hlq:Hid (val us/val vs<d2):=HD.out.less hd20 (by rw[hU2.out,hV2.out];omega)
     have hd2p:1<=d2:=by have:=HD.out.q0.1;have:=hlq.out;omega
     go_wp2;have hB3:=HBr.out;refine⟨⟨d2-1,r+hd,by go_num,by go_num,by omega,by omega,by omega,by omega,⟨?_,by have:=hlq.out;omega⟩,hB3⟩,by simp[intOf];omega⟩
     rw[HR.out.1,Int.sub_mul,Int.one_mul];omega
    ·have hcd:decide (r*4294967296+gx us m<d2*nx)=false:=decide_eq_false hc
     go_wp2;have hB3:=HBr.out;go_ret;exact⟨d2,rfl,hd20,hd21,⟨HR.out.2,HD.out.rD hd20 hd21 (by rw[hU2.out,hV2.out];omega)⟩,hB3⟩
   ·have hrd:decide (r<4294967296)=false:=decide_eq_false hr
    go_wp2;have hB3:=HBr.out;go_ret;exact⟨d2,rfl,hd20,hd21,⟨HR.out.2,HD.out.rD hd20 hd21 (by rw[hU2.out,hV2.out];omega)⟩,hB3⟩
structure Gr2(w w':World)(a b:Nat):Prop where
 os:w'.os=w.os
 tape:w'.tape=w.tape
 output:w'.output=w.output
 size:w.heap.size<=w'.heap.size
 block:∀k,k<w.heap.size->k≠a->k≠b->w'.heap[k]?=w.heap[k]?
theorem Gr2.refl(w:World)(a b:Nat):Gr2 w w a b:=⟨rfl,rfl,rfl,Jr _,fun _ _ _ _=>rfl⟩
theorem Gr2.trans{a b:Nat}{x y z:World}(h:Gr2 x y a b)(k:Gr2 y z a b):Gr2 x z a b:=
 ⟨k.os.trans h.os,k.tape.trans h.tape,k.output.trans h.output,JA h.size k.size,fun i hi h1 h2=>(k.block i (JE hi h.size) h1 h2).trans (h.block i hi h1 h2)⟩
theorem Gr2.of1{a b:Nat}{x y:World}(h:x.grownBy y (some a)):Gr2 x y a b:=⟨h.os,h.tape,h.output,h.size,fun i hi h1 _=>h.block i hi (fun e=>h1 (Option.some.inj e))⟩
theorem Gr2.of2{a b:Nat}{x y:World}(h:x.grownBy y (some b)):Gr2 x y a b:=⟨h.os,h.tape,h.output,h.size,fun i hi _ h2=>h.block i hi (fun e=>h2 (Option.some.inj e))⟩
theorem Gr2.of0{a b:Nat}{x y:World}(h:Below x.heap.size x y):Gr2 x y a b:=⟨h.os,h.tape,h.output,h.size,fun i hi _ _=>h.block i hi⟩
variable {p:Option Addr} {xs:List Int}
theorem Gr2.rd{a b:Nat}{x y:World}{k:IntKind}(h:Gr2 x y a b)(hr:Rd x p k xs)(h1:Off a p)(h2:Off b p):Rd y p k xs:=
 hr.same fun q hq hlt=>h.block q.block hlt (h1 q hq) (h2 q hq)
variable {B:Nat}
theorem Gr2.below{a b:Nat}{x y:World}(h:Gr2 x y a b)(ha:B<=a)(hb:B<=b)(hB:B<=x.heap.size):Below B x y:=
 ⟨h.os,h.tape,h.output,h.size,fun k hk=>h.block k (by omega) (by omega) (by omega)⟩
theorem Ha(Z X:List Int)(o n:Nat)(hX:X.length=n)(h:o+n<=Z.length):val (mid Z o X)=val Z+pw o*(val X-val ((Z.drop o).take n)):=by
 have e:val Z=val (mid Z o ((Z.drop o).take n)):=by rw[kq Z o n h]
 rw[e];unfold mid;rw[hX,dJ Z o n h,List.append_assoc,List.append_assoc,bq,bq,bq,bq,hX,dJ Z o n h,List.length_take,Nat.min_eq_left (by omega)]
 simp only[JF,Int.mul_sub];omega
variable {n:Nat}
theorem kJ(h:U32 xs)(hn:n<=xs.length)(hv:val xs<pw n):val (xs.take n)=val xs/\val (xs.drop n)=0:=by
 have e:=da xs n hn;have h1:=ar (an h n);have h2:=ar (cd h n);have hp:=bu n;have h3:val (xs.drop n)=0:=by
  rcases Int.lt_or_le 0 (val (xs.drop n)) with hc|hc
  ·exfalso
   have:pw n*1<=pw n*val (xs.drop n):=Jx (by omega) (by omega)
   omega
  ·omega
 rw[h3,JC,Int.add_zero] at e
 exact⟨e.symm,h3⟩
theorem wv(xs:List Int)(i:Nat)(h:i<xs.length):val (xs.drop i)=gx xs i+4294967296*val (xs.drop (i+1)):=by
 rw[drop_cons xs i h];rfl
structure DR(U vs Q R:List Int)(k n t:Nat):Prop where
 ql:Q.length=k
 qu:U32 Q
 rl:R.length=k+n
 ru:U32 R
 eq:val U=pw t*(val (Q.drop t)*val vs)+val R
 hi:val (R.drop t)<val vs
variable {R:List Int} {k i:Nat}
theorem DR.row{U Q:List Int}(h:DR U vs Q R k n (i+1))(hi:i<k)(hv:vs.length=n)(hV:U32 vs):
  val ((R.drop i).take (n+1))=val (R.drop i)/\val (R.drop (i+(n+1)))=0/\val ((R.drop i).take (n+1))<4294967296*val vs:=by
 have hl:=h.rl;have hlt:val vs<pw n:=by have:=bN hV;rwa [hv] at this
 have e:=wv R i (by omega)
 have hg:=h.ru i;have hh:=h.hi;have hlt2:val (R.drop i)<4294967296*val vs:=by omega
 have hp:=bE n;obtain⟨a,b⟩:=kJ (n:=n+1) (cd h.ru i) (by simp;omega) (by omega)
 rw[List.drop_drop] at b
 exact⟨a,b,by omega⟩
variable {new:List Int}
theorem DR.next{U Q:List Int}{q:Int}(h:DR U vs Q R k n (i+1))(hi:i<k)(hv:vs.length=n)(hV:U32 vs)(hnl:new.length=n+1)(hnu:U32 new)(hq:0<=q/\q<4294967296)
  (he:val new=val ((R.drop i).take (n+1))-q*val vs) (hlt:val new<val vs):DR U vs (Q.set i q) (mid R i new) k n i:=by
 obtain⟨r1,r2,r3⟩:=h.row hi hv hV;have hl:=h.rl;have hql:=h.ql;refine⟨by rw[List.length_set];exact h.ql,dy h.qu _ hq,by rw[b6 _ _ _ (by omega)];exact h.rl,?_,?_,?_⟩
 ·unfold mid
  exact aO (aO (an h.ru i) hnu) (cd h.ru _)
 ·rw[Ha R new i (n+1) hnl (by omega),he,h.eq,wv (Q.set i q) i (by rw[List.length_set];omega),bK Q i q (by omega),List.drop_set_of_lt (by omega),bE]
  simp only[JF,Int.mul_sub,Int.add_mul];have e1:pw i*(q*val vs)=pw i*(q*val vs):=rfl;have e2:pw i*(4294967296*val (Q.drop (i+1))*val vs)=4294967296*pw i*(val (Q.drop (i+1))*val vs):=by
   simp only[JG,JH]
  rw[e2];omega
 ·have e:(mid R i new).drop i=new++R.drop (i+(n+1)):=by
   unfold mid;rw[hnl,List.append_assoc,List.drop_append_of_le_length (by simp;omega),JL (by simp;omega),List.nil_append]
  rw[e,bq,r2,JC,Int.add_zero];exact hlt
theorem Gq(Z A B:List Int)(o:Nat)(h:A.length=B.length)(hz:o+A.length<=Z.length):(mid Z o A).take o++B++(mid Z o A).drop (o+B.length)=mid Z o B:=by
 have hl:(Z.take o).length=o:=by simp;omega
 have e1:(mid Z o A).take o=Z.take o:=by
  unfold mid;rw[List.append_assoc,List.take_append_of_le_length (by omega),Jv (by omega)]
 have e2:(mid Z o A).drop (o+B.length)=Z.drop (o+B.length):=by
  unfold mid;rw[<-h,List.drop_append_of_le_length (by simp;omega),JL (by simp;omega),List.nil_append]
 rw[e1,e2,mid]
theorem wU(Z A:List Int)(o:Nat)(hz:o+A.length<=Z.length):((mid Z o A).drop o).take A.length=A:=by
 have hl:(Z.take o).length=o:=by simp;omega
 unfold mid;rw[List.append_assoc,List.drop_append_of_le_length (by omega),JL (by omega),List.nil_append,List.take_append_of_le_length (Jr _),List.take_length]
def Bg(gq gu k n:Nat)(U vs:List Int)(w:World)(e:Ending)(w':World):Prop:=
 ∃Q R,e=.returned (.tuple #[])/\DR U vs Q R k n 0/\Row w' gq 97 .u32 Q/\Row w' gu 97 .u32 R/\Gr2 w w' gq gu
theorem IJ{us vs:Int}(hV:0<vs)(h0:us/vs<=d)(h1:d<=us/vs+1)(hs:0<=us-d*vs):d=us/vs/\us-d*vs<vs:=by
 have e1:=Int.lt_ediv_add_one_mul_self us hV;rcases(show d=us/vs\/d=us/vs+1 by omega) with h|h
 ·refine⟨h,?_⟩
  rw[h];rw[Int.add_mul,Int.one_mul] at e1
  omega
 ·rw[h] at hs;omega
theorem CD{us vs:Int}(hV:0<vs)(h0:us/vs<=d)(h1:d<=us/vs+1)(hs:us-d*vs<0):d-1=us/vs/\us-(d-1)*vs<vs/\0<=us-(d-1)*vs:=by
 have e1:=Int.lt_ediv_add_one_mul_self us hV;have e2:=Int.ediv_mul_le us (show vs≠0 by omega)
 rcases(show d=us/vs\/d=us/vs+1 by omega) with h|h
 ·rw[h] at hs;omega
 ·have h':d-1=us/vs:=by omega
  rw[h'];rw[Int.add_mul,Int.one_mul] at e1
  exact⟨rfl,by omega,by omega⟩
theorem tE(gq gu b2 o2 k m vc ucap:Nat)(Q0 U vs:List Int)(w:World)(hk:k<=1000000)(hm:m<=1000000)(hql:Q0.length=k)(hqu:U32 Q0)(hul:U.length=k+(m+2))(huu:U32 U)(hvl:vs.length=m+2)(hV:U32 vs)(ht:gx vs (m+1)≠0)
  (hcap:ucap<=100000000) (huc:k+(m+2)<=ucap) (hQ:Row w gq 97 .u32 Q0) (hR:Row w gu 97 .u32 U) (hne:gq≠gu) (hY:Rd w (some ⟨b2,o2,none⟩) .u32 vs) (hn1:b2≠gq) (hn2:b2≠gu) (hhi:val (U.drop k)<val vs):
  Calls Tryz.prog 205 #[.slice (some ⟨gq,0,none⟩) k k,.slice (some ⟨gu,0,none⟩) (k+(m+2)) ucap,.slice (some ⟨b2,o2,none⟩) (m+2) vc] w (Bg gq gu k (m+2) U vs w):=by
 have HVV:Hid (vs.length=m+2/\gx vs (m+1)≠0):=⟨hvl,ht⟩;have HS:Hid (DR U vs Q0 U k (m+2) k):=⟨hql,hqu,hul,huu,by rw[JL (by omega)];simp[val],hhi⟩
 clear hvl ht hql hul hhi;go_enter Tryz.func205,Tryz.ntmps205;go_wp2;go_loopw [7] (fun iv wr=>∃(t:Nat) (Q R:List Int),t<=k/\iv=.int .i64 ((t:Int)-1)/\Hid (DR U vs Q R k (m+2) t/\Row wr gq 97 .u32 Q/\Row wr gu 97 .u32 R/\Gr2 w wr gq gu)) (fun iv _=>(intOf iv+1).toNat)
 case atStart=>exact⟨k,Q0,U,Jr _,by go_num,HS.out,hQ,hR,Gr2.refl _ _ _⟩
 case round=>
  obtain⟨t,Q,R,htk,rfl,H⟩:=hrel;by_cases h0:t=0
  ·subst h0
   go_wp2;go_end0;exact⟨Q,R,rfl,H.out.1,H.out.2.1,H.out.2.2.1,H.out.2.2.2⟩
  ·obtain⟨i,rfl⟩:∃i,t=i+1:=⟨t-1,by omega⟩
   have ei:((i+1:Nat):Int)-1=(i:Int):=by omega
   rw[ei];clear ei;have s1:(i:Int)+((m:Int)+2)+1<=(ucap:Int):=by omega
   have es:i+(m+2)+1-i=m+2+1:=by omega
   have ik:(i:Int)<(k:Int):=by omega
   obtain⟨hD,hrq,hru,hgr⟩:=H.out;obtain⟨r1,r2,r3⟩:=hD.row (by omega) HVV.out.1 hV
   have hRl:=hD.rl;have hus:((R.drop i).take (m+2+1)).length=m+2+1:=dJ R i _ (by omega)
   have hYr:=hgr.rd hY (fun a ha=>by cases ha;exact hn1) (fun a ha=>by cases ha;exact hn2)
   have hVp:0<val vs:=by
    have h1:=bV hV (show 0<ad vs by
     rcases Jw (ad vs) with hz|hz
     ·exact absurd (az vs (m+1) (by omega)) HVV.out.2
     ·exact hz)
    have:=bu (ad vs-1);omega
   have hg:=BV gu i b2 o2 m (ucap-i) vc ((R.drop i).take (m+2+1)) vs wr hus HVV.out.1 (by omega) (hru.rd i (m+2+1) (by omega)) (ku hD.ru i _) hYr hV HVV.out.2 r3
   have HG:=hg;have HH:Hid (DR U vs Q R k (m+2) (i+1)/\Row wr gq 97 .u32 Q/\Row wr gu 97 .u32 R/\Gr2 w wr gq gu/\((R.drop i).take (m+2+1)).length=m+2+1/\Rd wr (some ⟨b2,o2,none⟩) .u32 vs/\0<val vs/\R.length=k+(m+2)):=⟨hD,hrq,hru,hgr,hus,hYr,hVp,hRl⟩;clear hg hD hrq hru hgr r1 r2 r3 hRl hus hYr hVp H;go_wp2_with fail;refine HG.mono ?_;clear HG;rintro e w1 ⟨d,rfl,hd0,hd1,HDq,hb1⟩;go_wp2_with fail;obtain⟨hD,hrq,hru,hgr,hus,hYr,hVp,hRl⟩:=HH.out;have hru1:=hru.below hb1 hru.lt;have hrq1:=hrq.below hb1 hrq.lt;have hms:=kq R i (m+2+1) (by omega)
   refine(vC gu i (ucap-i) R ((R.drop i).take (m+2+1)) (some ⟨b2,o2,none⟩) (m+2) vc vs d w1 (by omega) (by omega) (by omega) hus (by rw[hms];exact hru1) (ku hD.ru i _) HVV.out.1 (hYr.below hb1) hV (fun _ a ha=>by cases ha;exact hn2) hd0 hd1).mono ?_
   rintro e w2 ⟨R',lk,rfl,hl',hu',HV',hr',hg'⟩;have hrq2:=hrq1.kept hg' (by intro e;cases e;exact hne rfl)
   have hnn:=ar hu';have hlt':=bN hu';have HE:Hid (R'.length=m+2+1/\0<=val R'/\val R'<pw R'.length):=⟨hl',hnn,hlt'⟩;have HQ2:Hid (Row w2 gq 97 .u32 Q/\Row w2 gu 97 .u32 (mid R i R')/\Gr2 w w2 gq gu/\Rd w2 (some ⟨b2,o2,none⟩) .u32 vs):=
    ⟨hrq2,hr',(hgr.trans (Gr2.of0 hb1)).trans (Gr2.of2 hg'),(hYr.below hb1).dw hg' (fun a ha=>by cases ha;exact hn2)⟩
   have hcq:=hrq2.cell i (by have:=hD.ql;omega)
   have hfq:=hrq2.frozen i;clear hD hrq hru hgr hus hYr hVp hRl hru1 hrq1 hms hb1 hl' hnn hlt' hr' hg' hrq2
   cases lk
   ·go_wp2
    obtain⟨hD,hrq,hru,hgr,hus,hYr,hVp,hRl⟩:=HH.out;obtain⟨e1,e2,e3⟩:=HE.out;obtain⟨f1,f2,f3,f4⟩:=HQ2.out;have hv':=HV'.out;rw[if_neg (by decide),Int.add_zero] at hv'
    obtain⟨g1,g2⟩:=IJ hVp HDq.out.1 HDq.out.2 (by omega)
    refine⟨⟨i,Q.set i d,mid R i R',by omega,rfl,hD.next (by omega) HVV.out.1 hV e1 hu' ⟨hd0,hd1⟩ hv' (by omega),f1.set i d,f2.ah _ _ (fun e=>hne e.symm),f3.trans (Gr2.of1 (aL (ck w2 (some gq)) i _))⟩,by simp[intOf]⟩
   ·have hd1p:1<=d:=by
     obtain⟨hD,hrq,hru,hgr,hus,hYr,hVp,hRl⟩:=HH.out;obtain⟨e1,e2,e3⟩:=HE.out;have hv':=HV'.out;rw[if_pos rfl] at hv'
     rw[e1] at e3
     obtain⟨g1,g2,g3⟩:=CD hVp HDq.out.1 HDq.out.2 (by omega)
     have:=Int.ediv_nonneg (ar (ku hD.ru i (m+2+1))) (Int.le_of_lt hVp);omega
    have hwd:IntKind.u64.wrap (d-1)=d-1:=by rw[IntKind.wrap_u64];omega
    go_wp2_with fail;obtain⟨hD,hrq,hru,hgr,hus,hYr,hVp,hRl⟩:=HH.out;obtain⟨e1,e2,e3⟩:=HE.out;obtain⟨f1,f2,f3,f4⟩:=HQ2.out;have hmu:U32 (mid R i R'):=by unfold mid;exact aO (aO (an hD.ru i) hu') (cd hD.ru _)
    have hml:=b6 R R' i (by omega)
    refine(gK gu i (m+2+1) (ucap-i) (mid R i R') (some ⟨b2,o2,none⟩) (m+2) vc vs w2 (by omega) (by omega) (by omega) f2 hmu HVV.out.1 (by omega) f4 hV (fun _ a ha=>by cases ha;exact hn2)).mono ?_
    rintro e w3 ⟨c,new,rfl,n1,n2,c0,c1,ev,hrow,hg3⟩;have hrow':Row w3 gu 97 .u32 (mid R i new):=by
     have:=Gq R R' new i (by omega) (by omega)
     rw[n1] at this
     rw[<-this];exact hrow
    have hmp:=wU R R' i (by omega)
    rw[e1] at hmp
    rw[hmp] at ev
    have hrq3:=f1.kept hg3 (by intro e;cases e;exact hne rfl)
    have hcq3:=hrq3.cell i (by have:=hD.ql;omega)
    have hfq3:=hrq3.frozen i;have HF:Hid (new.length=m+2+1/\U32 new/\0<=c/\c<=1/\val new+pw (m+2+1)*c=val R'+val vs/\Row w3 gu 97 .u32 (mid R i new)/\Row w3 gq 97 .u32 Q/\Gr2 w w3 gq gu):=⟨n1,n2,c0,c1,ev,hrow',hrq3,f3.trans (Gr2.of2 hg3)⟩;clear hD hrq hru hgr hus hYr hVp hRl e1 e2 e3 f1 f2 f3 f4 hmu hml n1 n2 c0 c1 ev hrow hg3 hrow' hmp hrq3 hcq hfq;go_wp2;obtain⟨hD,hrq,hru,hgr,hus,hYr,hVp,hRl⟩:=HH.out;obtain⟨e1,e2,e3⟩:=HE.out;obtain⟨n1,n2,c0,c1,ev,hrow',hrq3,hgr3⟩:=HF.out;have hv':=HV'.out;simp only[if_true] at hv'
    rw[e1] at e3
    obtain⟨g1,g2,g3⟩:=CD hVp HDq.out.1 HDq.out.2 (by omega)
    have hnl:=bN n2;rw[n1] at hnl
    have hcc:c=1:=by
     rcases(show c=0\/c=1 by omega) with h|h
     ·rw[h,JC,Int.add_zero] at ev
      rw[Int.sub_mul,Int.one_mul] at g3
      omega
     ·exact h
    rw[hcc,Int.mul_one] at ev
    have hev:val new=val ((R.drop i).take (m+2+1))-(d-1)*val vs:=by
     rw[Int.sub_mul,Int.one_mul];omega
    refine⟨⟨i,Q.set i (d-1),mid R i new,by omega,rfl,hD.next (by omega) HVV.out.1 hV n1 n2 ⟨by omega,by omega⟩ hev (by omega),hrq3.set i (d-1),hrow'.ah _ _ (fun e=>hne e.symm),hgr3.trans (Gr2.of1 (aL (ck w3 (some gq)) i _))⟩,by simp[intOf]⟩
end Go.Proofs.YtdjjlghlcffflaaGreatDoor
