/- Own. -/
import Derived.Test.YtdjjlghlcffflaaGreatDoorPl
set_option linter.unusedVariables false
set_option linter.unusedSimpArgs false
set_option maxHeartbeats 8000000
set_option maxRecDepth 100000
namespace Go.Proofs.YtdjjlghlcffflaaGreatDoor
open Go.RowKit
theorem uo(xs ys new:List Int)(n m M:Nat)(c:Int)(hn:xs.length=n)(hm:ys.length=m)(h1:n<M)(h2:m<M)(hX:U32 xs)(hY:U32 ys)(hU:U32 new)(hl:new.length=M)(hc0:0<=c)(hc1:c<=1)
  (h:val new+pw M*c=val xs+val ys):val new=val xs+val ys:=by
 rcases Int.lt_or_le 0 c with hc|hc
 ·have e:c=1:=by omega
  subst e;have a1:=bN hX;have a2:=bN hY;have a3:=ar hU;have a4:pw xs.length<=pw (M-1):=aW (by omega)
  have a5:pw ys.length<=pw (M-1):=aW (by omega)
  have a6:=bE (M-1);rw[show M-1+1=M by omega] at a6
  have a7:=bu (M-1);omega
 ·have e:c=0:=by omega
  subst e;omega
theorem zQ(p q:Option Addr)(n nc m mc:Nat)(xs ys:List Int)(w:World)(hn:xs.length=n)(hm:ys.length=m)(hnb:n<=1000000000)(hmb:m<=1000000000)
  (hX:Rd w p .u32 xs) (hXu:U32 xs) (hY:Rd w q .u32 ys) (hYu:U32 ys):
  Calls Tryz.prog 148 #[.slice p n nc,.slice q m mc] w fun e w'=>∃M zs,e=.returned (.slice (some ⟨w.heap.size,0,none⟩) M M)/\n<M/\m<M/\M<=n+m+1/\zs.length=M/\U32 zs/\val zs=val xs+val ys/\
   Row w' w.heap.size 97 .u32 zs/\Below w.heap.size w w':=by
 by_cases hlt:n<m
 ·have hl':(n:Int)<m:=by omega
  have hmk:=jB (m+1) (by omega)
  have ec:((m+1:Nat):Int)=(m:Int)+1:=by omega
  rw[ec] at hmk
  clear ec;have hcp:=fun ty=>mH ty w p n nc (m+1) xs hX hn (by omega)
  have hlen:(xs++au (m+1-n)).length=m+1:=by simp[au];omega
  go_enter Tryz.func148,Tryz.ntmps148;go_wp2_with fail;refine(gK w.heap.size 0 (m+1) (m+1) (xs++au (m+1-n)) q m mc ys _ (by omega) (by omega) (Jr _) (Row.new w _ _ _) (aO hXu (eR _)) hm (by omega) (hY.alloc _) hYu (fun h=>hY.off (Jr _) (by omega))).mono ?_
  rintro e w' ⟨c,new,rfl,h1,h2,h3,h4,h5,h6,h7⟩;go_wp2;go_ret;have hs:=uo xs ys new n m (m+1) c hn hm (by omega) (by omega) hXu hYu h2 h1 h3 h4 (by
   rw[h5,List.drop_zero,Jv (by omega),bq,val_zero,JC,Int.add_zero])
  refine⟨m+1,new,rfl,by omega,by omega,by omega,h1,h2,hs,?_,?_⟩
  ·rw[List.take_zero,List.nil_append,Nat.zero_add,JL (by omega),List.append_nil] at h6
   exact h6
  ·exact cQ ((Jt _ _).alloc (Jr _) _) h7 (by simp) (Jr _)
 ·have hl':¬(n:Int)<m:=by omega
  have hmk:=jB (n+1) (by omega)
  have ec:((n+1:Nat):Int)=(n:Int)+1:=by omega
  rw[ec] at hmk
  clear ec;have hcp:=fun ty=>mH ty w p n nc (n+1) xs hX hn (by omega)
  have hlen:(xs++au 1).length=n+1:=by simp[au];omega
  go_enter Tryz.func148,Tryz.ntmps148;go_wp2_with fail;refine(gK w.heap.size 0 (n+1) (n+1) (xs++au 1) q m mc ys _ (by omega) (by omega) (Jr _) (Row.new w _ _ _) (aO hXu (eR _)) hm (by omega) (hY.alloc _) hYu (fun h=>hY.off (Jr _) (by omega))).mono ?_
  rintro e w' ⟨c,new,rfl,h1,h2,h3,h4,h5,h6,h7⟩;go_wp2;go_ret;have hs:=uo xs ys new n m (n+1) c hn hm (by omega) (by omega) hXu hYu h2 h1 h3 h4 (by
   rw[h5,List.drop_zero,Jv (by omega),bq,val_zero,JC,Int.add_zero])
  refine⟨n+1,new,rfl,by omega,by omega,by omega,h1,h2,hs,?_,?_⟩
  ·rw[List.take_zero,List.nil_append,Nat.zero_add,JL (by omega),List.append_nil] at h6
   exact h6
  ·exact cQ ((Jt _ _).alloc (Jr _) _) h7 (by simp) (Jr _)
theorem iN(p q:Option Addr)(n nc m mc:Nat)(xs ys:List Int)(w:World)(hn:xs.length=n)(hm:ys.length=m)(hmc:m<=mc)(hmc':mc<=maxLen)(hnb:n<=1000000000)
  (hX:Rd w p .u32 xs) (hXu:U32 xs) (hY:Rd w q .u32 ys) (hYu:U32 ys) (hle:val ys<=val xs):
  Calls Tryz.prog 149 #[.slice p n nc,.slice q m mc] w fun e w'=>∃zs,e=.returned (.slice (some ⟨w.heap.size,0,none⟩) n n)/\zs.length=n/\U32 zs/\val zs=val xs-val ys/\
   Row w' w.heap.size 97 .u32 zs/\Below w.heap.size w w':=by
 have ht:ad ys<=n:=by
  rcases Ju n (ad ys) with h|h
  ·have h1:=nF hXu hYu (Nat.lt_of_le_of_lt (hn ▸ aj xs) h)
   omega
  ·exact h
 go_enter Tryz.func149,Tryz.ntmps149;go_wp2_with fail;refine(gL p n nc xs _ hn (by omega) hX).mono ?_
 rintro e w' ⟨rfl,rfl⟩;go_wp2_with fail;refine(aS q m mc ys _ hm hmc hmc' (hY.alloc _)).mono ?_;rintro e w' ⟨rfl,rfl⟩;go_wp2_with fail;refine(kI w.heap.size 0 n n xs q (ad ys) mc (tr ys) _ (by omega) (by omega) (Jr _) (Row.new w _ _ _) hXu (af ys) ht (hY.tr.alloc _) (cC hYu) (fun h=>hY.tr.off (Jr _) (by rw[af];exact h))).mono ?_
 rintro e w' ⟨c,new,rfl,h1,h2,h3,h4,h5,h6,h7⟩;go_wp2;go_ret;rw[List.drop_zero,Jv (by omega),aK] at h5
 have hc:c=0:=by
  rcases Int.lt_or_le 0 c with hc|hc
  ·have e:c=1:=by omega
   subst e;have hv:=bN h2;rw[h1] at hv
   omega
  ·omega
 subst hc;refine⟨new,rfl,h1,h2,by simp only[JC] at h5;omega,?_,?_⟩
 ·rw[List.take_zero,List.nil_append,Nat.zero_add,JL (by omega),List.append_nil] at h6
  exact h6
 ·exact cQ ((Jt _ _).alloc (Jr _) _) h7 (by simp) (Jr _)
theorem lO(a b:Int)(w:World):Calls Tryz.prog 136 #[.int .i64 a,.int .i64 b] w fun e w'=>e=.returned (.int .i64 (bQ a b))/\w=w':=by
 rcases Int.lt_trichotomy a b with h|h|h
 ·rw[cK h]
  go_enter Tryz.func136,Tryz.ntmps136;go_wp2;go_ret;exact⟨rfl,rfl⟩
 ·subst h
  rw[iR];go_enter Tryz.func136,Tryz.ntmps136;go_wp2;go_ret;exact⟨rfl,rfl⟩
 ·rw[ee h]
  have h':¬a<b:=by omega
  go_enter Tryz.func136,Tryz.ntmps136;go_wp2;go_ret;exact⟨rfl,rfl⟩
theorem kN(a b:Int)(w:World):Calls Tryz.prog 180 #[.int .u32 a,.int .u32 b] w fun e w'=>e=.returned (.int .i64 (bQ a b))/\w=w':=by
 rcases Int.lt_trichotomy a b with h|h|h
 ·rw[cK h]
  go_enter Tryz.func180,Tryz.ntmps180;go_wp2;go_ret;exact⟨rfl,rfl⟩
 ·subst h
  rw[iR];go_enter Tryz.func180,Tryz.ntmps180;go_wp2;go_ret;exact⟨rfl,rfl⟩
 ·rw[ee h]
  have h':¬a<b:=by omega
  go_enter Tryz.func180,Tryz.ntmps180;go_wp2;go_ret;exact⟨rfl,rfl⟩
theorem gU{k:IntKind}{a b:Int}(h:a=b):Ending.returned (.int k a)=.returned (.int k b):=by rw[h]
variable {w:World} {v:Value}
theorem dH{P:Program}{f:FuncId}{args:Array Value}(h:Calls P f args w fun e w'=>e=.returned v/\w=w'):
  Calls P f args w fun e w'=>e=.returned v/\w'=w:=h.mono fun _ _ ⟨a,b⟩=>⟨a,b.symm⟩
theorem ey(p q:Option Addr)(n nc m mc:Nat)(xs ys:List Int)(w:World)(hn:xs.length=n)(hm:ys.length=m)(hnc:n<=nc)(hnc':nc<=maxLen)(hmc:m<=mc)(hmc':mc<=maxLen)
  (hX:Rd w p .u32 xs) (hXu:U32 xs) (hY:Rd w q .u32 ys) (hYu:U32 ys):
  Calls Tryz.prog 137 #[.slice p n nc,.slice q m mc] w fun e w'=>e=.returned (.int .i64 (bQ (val xs) (val ys)))/\Below w.heap.size w w':=by
 have tx:=aj xs;have ty:=aj ys;have hnc2:=hnc';have hmc2:=hmc';unfold maxLen at hnc2 hmc2
 by_cases hne:ad xs=ad ys
 ·have hb:(((ad xs:Nat):Int) != ((ad ys:Nat):Int))=false:=by simp[hne]
  go_enter Tryz.func137,Tryz.ntmps137;go_wp2_with fail;refine(aS p n nc xs _ hn hnc hnc' hX).mono ?_;rintro e w' ⟨rfl,rfl⟩;go_wp2_with fail;refine(aS q m mc ys _ hm hmc hmc' hY).mono ?_;rintro e w' ⟨rfl,rfl⟩;have H1:Hid (ad xs=ad ys):=hne;clear hne;go_wp2_with fail;go_loopw [5] (fun iv wr=>∃k:Nat,k<=ad ys/\iv=.int .i64 ((k:Int)-1)/\Hid ((tr xs).drop k=(tr ys).drop k/\Below w.heap.size w wr)) (fun iv _=>(intOf iv+1).toNat)
  case atStart=>
   refine⟨ad ys,Jr _,by go_num,?_,Jt _ _⟩
   rw[JL (by rw[af];have:=H1.out;omega),JL (by rw[af];omega)]
  case round=>
   obtain⟨k,hk,rfl,H⟩:=hrel;by_cases h0:k=0
   ·subst h0
    go_wp2;go_ret;obtain⟨hd,hb⟩:=H.out;rw[List.drop_zero,List.drop_zero] at hd
    rw[<-aK xs,hd,aK,iR];exact⟨rfl,hb⟩
   ·obtain⟨j,rfl⟩:∃j,k=j+1:=⟨k-1,by omega⟩
    have ej:((j+1:Nat):Int)-1=(j:Int):=by omega
    rw[ej];clear ej;obtain⟨hd,hb⟩:=H.out;have hl:=H1.out;obtain⟨b1,o1,rfl,hc1⟩:=(hX.tr.below hb) (by rw[af];omega)
    obtain⟨b2,o2,rfl,hc2⟩:=(hY.tr.below hb) (by rw[af];omega)
    have g1:=hc1 j (by rw[af];omega)
    have g2:=hc2 j (by rw[af];omega)
    clear hc1 hc2 hd hb hl;rcases Int.lt_trichotomy (gx (tr xs) j) (gx (tr ys) j) with hc|hc|hc
    ·have hq:(gx (tr xs) j != gx (tr ys) j)=true:=by rw[bne_iff_ne];omega
     go_wp2;go_quiet (fail);have hB:=below_drewN H.out.2 nq;have e1:(wr.drewN nq).cell? ⟨b1,o1+j,none⟩=some (.int .u32 (gx (tr xs) j)):=g1;have e2:(wr.drewN nq).cell? ⟨b2,o2+j,none⟩=some (.int .u32 (gx (tr ys) j)):=g2;generalize wr.drewN nq=wq at *
     go_wp2;go_big_quiet ((go_at_call 180;exact Calls.quiet_of_same (dH (kN _ _ _))));go_wp2;go_ret;obtain⟨hd,hb⟩:=H.out;have hl:=H1.out;have hv:=vo (cC hXu) (cC hYu) j (by rw[af];omega) (by rw[af];omega) hd hc
     rw[aK,aK] at hv
     rw[cK hv];exact⟨gU (cK hc),below_drewN hB _⟩
    ·have hq:(gx (tr xs) j != gx (tr ys) j)=false:=by rw[hc];simp
     have HC:Hid (gx (tr xs) j=gx (tr ys) j):=hc;clear hc;go_wp2;go_quiet (fail);go_wp2;refine⟨⟨j,by omega,by go_num,?_,below_drewN H.out.2 _⟩,by simp[intOf]⟩
     exact uB j (by rw[af];have:=H1.out;omega) (by rw[af];omega) H.out.1 HC.out
    ·have hq:(gx (tr xs) j != gx (tr ys) j)=true:=by rw[bne_iff_ne];omega
     go_wp2;go_quiet (fail);have hB:=below_drewN H.out.2 nq;have e1:(wr.drewN nq).cell? ⟨b1,o1+j,none⟩=some (.int .u32 (gx (tr xs) j)):=g1;have e2:(wr.drewN nq).cell? ⟨b2,o2+j,none⟩=some (.int .u32 (gx (tr ys) j)):=g2;generalize wr.drewN nq=wq at *
     go_wp2;go_big_quiet ((go_at_call 180;exact Calls.quiet_of_same (dH (kN _ _ _))));go_wp2;go_ret;obtain⟨hd,hb⟩:=H.out;have hl:=H1.out;have hv:=vo (cC hYu) (cC hXu) j (by rw[af];omega) (by rw[af];omega) hd.symm hc
     rw[aK,aK] at hv
     rw[ee hv];exact⟨gU (ee hc),below_drewN hB _⟩
 ·have hb:(((ad xs:Nat):Int) != ((ad ys:Nat):Int))=true:=by rw[bne_iff_ne];omega
  go_enter Tryz.func137,Tryz.ntmps137;go_wp2_with fail;refine(aS p n nc xs _ hn hnc hnc' hX).mono ?_;rintro e w' ⟨rfl,rfl⟩;go_wp2_with fail;refine(aS q m mc ys _ hm hmc hmc' hY).mono ?_;rintro e w' ⟨rfl,rfl⟩;go_wp2_with fail;refine(lO _ _ _).mono ?_;rintro e w' ⟨rfl,rfl⟩;go_wp2;go_ret;refine⟨gU ?_,Jt _ _⟩;rcases Nat.lt_or_gt_of_ne hne with h|h
  ·rw[cK (nF hXu hYu h),cK (by omega)]
  ·rw[ee (nF hYu hXu h),ee (by omega)]
def aq(s:Bool)(xs:List Int):Int:=if s then-val xs else val xs
structure AI(w:World)(p:Option Addr)(n nc:Nat)(xs:List Int):Prop where
 len:xs.length=n
 cap:n<=nc
 bnd:nc<=maxLen
 sml:n<=100000000
 rd:Rd w p .u32 xs
 u:U32 xs
structure NI(B:Nat)(w:World)(s:Bool)(p:Option Addr)(n:Nat)(xs:List Int)(z:Int):Prop where
 len:xs.length=n
 rd:Rd w p .u32 xs
 u:U32 xs
 nrm:ad xs=n
 sg:n=0->s=false
 pn:n=0->p=none
 v:aq s xs=z
 fr:aJ B p
 fz:Fz w p
variable {w':World} {p:Option Addr} {n nc:Nat} {xs:List Int}
theorem AI.below(h:AI w p n nc xs)(hb:Below w.heap.size w w'):AI w' p n nc xs:=⟨h.len,h.cap,h.bnd,h.sml,h.rd.below hb,h.u⟩
theorem AI.alloc(h:AI w p n nc xs)(o:Obj):AI (w.alloc o) p n nc xs:=⟨h.len,h.cap,h.bnd,h.sml,h.rd.alloc o,h.u⟩
variable {B:Nat} {s:Bool} {z:Int}
theorem NI.below(h:NI B w s p n xs z)(hb:Below w.heap.size w w'):NI B w' s p n xs z:=
 ⟨h.len,h.rd.below hb,h.u,h.nrm,h.sg,h.pn,h.v,h.fr,h.fz.below hb⟩
variable {B':Nat}
theorem NI.mono(h:NI B w s p n xs z)(hB:B'<=B):NI B' w s p n xs z:=
 ⟨h.len,h.rd,h.u,h.nrm,h.sg,h.pn,h.v,fun a ha=>JA hB (h.fr a ha),h.fz⟩
theorem NI.ai(h:NI B w s p n xs z)(hn:n<=100000000):AI w p n n xs:=
 ⟨h.len,Jr _,by unfold maxLen;omega,hn,h.rd,h.u⟩
theorem tW(s:Bool)(xs:List Int):aq s (tr xs)=aq s xs:=by simp only[aq,aK]
variable {q:Option Addr}
theorem dn(neg:Bool)(hX:Rd w q .u32 xs)(hU:U32 xs)(hf:aJ B q)(hz:Fz w q):NI B w (nsg neg xs) (nad q xs) (ad xs) (tr xs) (aq neg xs):=by
 refine⟨af xs,?_,cC hU,aM xs,fun h=>by rw[nsg,if_pos h],fun h=>by rw[nad,if_pos h],?_,?_,?_⟩
 ·intro h
  rw[af] at h
  rw[nad,if_neg (by omega)]
  exact hX.tr (by rw[af];exact h)
 ·rw[tW,nsg]
  split
  ·rename_i h
   have:=(bF hU).1 h;simp[aq,this]
  ·rfl
 ·rw[nad]
  split
  ·intro a ha;cases ha
  ·exact hf
 ·rw[nad]
  split
  ·exact Fz.nil _
  ·exact hz
theorem Row.oy(w:World)(a:Obj)(e:TypeId)(k:IntKind)(xs:List Int):Row ((w.alloc a).alloc (.cells (ca k xs) e)) (w.heap.size+1) e k xs:=by
 have:=Row.new (w.alloc a) e k xs;rwa [Js] at this
theorem Row.Ej(w:World)(a b:Obj)(e:TypeId)(k:IntKind)(xs:List Int):Row (((w.alloc a).alloc b).alloc (.cells (ca k xs) e)) (w.heap.size+1+1) e k xs:=by
 have:=Row.new ((w.alloc a).alloc b) e k xs;rwa [Js,Js] at this
theorem Row.new3(w:World)(a b c:Obj)(e:TypeId)(k:IntKind)(xs:List Int):Row ((((w.alloc a).alloc b).alloc c).alloc (.cells (ca k xs) e)) (w.heap.size+1+1+1) e k xs:=by
 have:=Row.new (((w.alloc a).alloc b).alloc c) e k xs;rwa [Js,Js,Js] at this
variable {w1 w2:World} {u:Value}
theorem fW{a b:Addr}(h:w1.cell? a=some u/\w1.cell? b=some v)(hb:Below w1.heap.size w1 w2):w2.cell? a=some u/\w2.cell? b=some v:=
 ⟨cell_later hb h.1,cell_later hb h.2⟩
theorem dU{a b c d:Addr}{x y:Value}(h:w1.cell? a=some u/\w1.cell? b=some v/\w1.cell? c=some x/\w1.cell? d=some y)(hb:Below w1.heap.size w1 w2):w2.cell? a=some u/\w2.cell? b=some v/\w2.cell? c=some x/\w2.cell? d=some y:=
 ⟨cell_later hb h.1,cell_later hb h.2.1,cell_later hb h.2.2.1,cell_later hb h.2.2.2⟩
theorem NI.set(h:NI B w s p n xs z){a:Addr}(ha:a.block<B)(v:Value):NI B (w.setCell a v) s p n xs z:=
 ⟨h.len,h.rd.ah a v (fun b hb e=>by have:=h.fr b hb;omega),h.u,h.nrm,h.sg,h.pn,h.v,h.fr,h.fz.set a v⟩
theorem NI.drew(h:NI B w s p n xs z):NI B w.drew s p n xs z:=⟨h.len,h.rd.drew,h.u,h.nrm,h.sg,h.pn,h.v,h.fr,h.fz.drew⟩
theorem AI.drew(h:AI w p n nc xs):AI w.drew p n nc xs:=⟨h.len,h.cap,h.bnd,h.sml,h.rd,h.u⟩
theorem AI.tr(h:AI w p n nc xs):AI w p (ad xs) nc (tr xs):=
 ⟨af xs,by have:=aj xs;have:=h.len;have:=h.cap;omega,h.bnd,by have:=aj xs;have:=h.len;have:=h.sml;omega,h.rd.tr,cC h.u⟩
variable {o:Nat}
theorem aY{b:Nat}(h:B<=b):aJ B (some ⟨b,o,none⟩):=fun a ha=>by cases ha;exact h
theorem dI:aJ B none:=fun a ha=>by cases ha
variable {W:World} {r:Nat}
theorem cj(hb:Below W.heap.size W w1)(h0:W.cell? ⟨r,0,none⟩=some u)(h1:W.cell? ⟨r,1,none⟩=some v)(f0:W.frozen? ⟨r,0,none⟩=false)(f1:W.frozen? ⟨r,1,none⟩=false):
  w1.cell? ⟨r,0,none⟩=some u/\w1.cell? ⟨r,1,none⟩=some v/\w1.frozen? ⟨r,0,none⟩=false/\w1.frozen? ⟨r,1,none⟩=false:=by
 have hr:r<W.heap.size:=block_lt_of_cell h0;exact⟨cell_later hb h0,cell_later hb h1,by rw[hb.frozen (p:=⟨r,0,none⟩) hr];exact f0,by rw[hb.frozen (p:=⟨r,1,none⟩) hr];exact f1⟩
structure rP(w W:World)(a0 a1 b0 b1 r0 r1:Value):Prop where
 size:w.heap.size+1+1+1<=W.heap.size
 below:Below w.heap.size w W
 ca0:W.cell? ⟨w.heap.size,0,none⟩=some a0
 ca1:W.cell? ⟨w.heap.size,1,none⟩=some a1
 cb0:W.cell? ⟨w.heap.size+1,0,none⟩=some b0
 cb1:W.cell? ⟨w.heap.size+1,1,none⟩=some b1
 cr0:W.cell? ⟨w.heap.size+1+1,0,none⟩=some r0
 cr1:W.cell? ⟨w.heap.size+1+1,1,none⟩=some r1
 fr0:W.frozen? ⟨w.heap.size+1+1,0,none⟩=false
 fr1:W.frozen? ⟨w.heap.size+1+1,1,none⟩=false
theorem rU(w:World)(a0 a1 b0 b1 r0 r1:Value)(ta tb tr k:Nat):rP w ((((w.alloc (.cells #[a0,a1] ta)).alloc (.cells #[b0,b1] tb)).alloc (.cells #[r0,r1] tr)).drewN k) a0 a1 b0 b1 r0 r1:=by
 refine⟨by simp,below_drewN ((((Jt _ _).alloc (Jr _) _).alloc (by simp) _).alloc (by simp;omega) _) k,?_,?_,?_,?_,?_,?_,?_,?_⟩<;>simp[go_sem,World.cell?_alloc_past,World.frozen?_alloc_past]
theorem iJ(w:World)(a0 a1 b0 b1 r0 r1:Value)(ta tb tr:Nat):rP w (((w.alloc (.cells #[a0,a1] ta)).alloc (.cells #[b0,b1] tb)).alloc (.cells #[r0,r1] tr)) a0 a1 b0 b1 r0 r1:=by
 refine⟨by simp,(((Jt _ _).alloc (Jr _) _).alloc (by simp) _).alloc (by simp;omega) _,?_,?_,?_,?_,?_,?_,?_,?_⟩<;>simp[go_sem,World.cell?_alloc_past,World.frozen?_alloc_past]
variable {W':World} {a0 a1 b0 b1:Value}
theorem rP.later{r0 r1:Value}(h:rP w W a0 a1 b0 b1 r0 r1)(hb:Below W.heap.size W W'):rP w W' a0 a1 b0 b1 r0 r1:=by
 obtain⟨c0,c1,f0,f1⟩:=cj hb h.cr0 h.cr1 h.fr0 h.fr1;exact⟨JA h.size hb.size,h.below.trans (hb.mono (by have:=h.size;omega)),cell_later hb h.ca0,cell_later hb h.ca1,cell_later hb h.cb0,cell_later hb h.cb1,c0,c1,f0,f1⟩
variable {zs:List Int}
theorem ir{sg:Bool}{e:TypeId}(hw:Below w.heap.size w W)(hr:w.heap.size<=r)(hr':r<W.heap.size)
  (hz:Row w1 W.heap.size e .u32 zs) (hu:U32 zs) (hb1:Below W.heap.size W w1) (hb2:Below w1.heap.size w1 w2) (hv:aq sg zs=z):
  NI w.heap.size ((w2.setCell ⟨r,0,none⟩ u).setCell ⟨r,1,none⟩ v) (nsg sg zs) (nad (some ⟨W.heap.size,0,none⟩) zs) (ad zs) (tr zs) z/\Below w.heap.size w ((w2.setCell ⟨r,0,none⟩ u).setCell ⟨r,1,none⟩ v):=by
 have s1:=hw.size;have s2:=hb1.size;subst hv;exact⟨((((dn (B:=W.heap.size) sg hz.a8 hu (aY (Jr _)) (hz.fz 0)).below hb2).set hr' _).set hr' _).mono s1,
  (((hw.trans (hb1.mono s1)).trans (hb2.mono (by omega))).setCell (p:=⟨r,0,none⟩) hr _).setCell (p:=⟨r,1,none⟩) hr _⟩
theorem Ii(hw:Below w.heap.size w W)(hr:w.heap.size<=r)(hr':r<W.heap.size)
  (hN:NI W.heap.size w1 s p n xs z) (hb:Below W.heap.size W w1):
  NI w.heap.size ((w1.setCell ⟨r,0,none⟩ u).setCell ⟨r,1,none⟩ v) s p n xs z/\Below w.heap.size w ((w1.setCell ⟨r,0,none⟩ u).setCell ⟨r,1,none⟩ v):=
 ⟨((hN.set hr' _).set hr' _).mono hw.size,((hw.trans (hb.mono hw.size)).setCell (p:=⟨r,0,none⟩) hr _).setCell (p:=⟨r,1,none⟩) hr _⟩
theorem D6(s:Bool)(xs:List Int):aq (!s) xs = - aq s xs:=by cases s<;>simp[aq]
structure zW(w W:World)(a0 a1 b0 b1:Value):Prop where
 size:w.heap.size+1+1<=W.heap.size
 below:Below w.heap.size w W
 ca0:W.cell? ⟨w.heap.size,0,none⟩=some a0
 ca1:W.cell? ⟨w.heap.size,1,none⟩=some a1
 cb0:W.cell? ⟨w.heap.size+1,0,none⟩=some b0
 cb1:W.cell? ⟨w.heap.size+1,1,none⟩=some b1
theorem vW(w:World)(a0 a1 b0 b1:Value)(ta tb:Nat):zW w ((w.alloc (.cells #[a0,a1] ta)).alloc (.cells #[b0,b1] tb)) a0 a1 b0 b1:=by
 refine⟨by simp,((Jt _ _).alloc (Jr _) _).alloc (by simp) _,?_,?_,?_,?_⟩<;>simp[go_sem,World.cell?_alloc_past,World.frozen?_alloc_past]
theorem zW.later(h:zW w W a0 a1 b0 b1)(hb:Below W.heap.size W W'):zW w W' a0 a1 b0 b1:=
 ⟨JA h.size hb.size,h.below.trans (hb.mono (by have:=h.size;omega)),cell_later hb h.ca0,cell_later hb h.ca1,cell_later hb h.cb0,cell_later hb h.cb1⟩
theorem aQ(h:Below W.drew.heap.size W.drew w1):Below W.heap.size W w1:=⟨h.os,h.tape,h.output,h.size,h.block⟩
end Go.Proofs.YtdjjlghlcffflaaGreatDoor
