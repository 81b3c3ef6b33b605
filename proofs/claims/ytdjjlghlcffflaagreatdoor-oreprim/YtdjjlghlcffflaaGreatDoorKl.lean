/- Own. -/
import Derived.Test.YtdjjlghlcffflaaGreatDoorUs
set_option linter.unusedVariables false
set_option linter.unusedSimpArgs false
set_option maxHeartbeats 8000000
set_option maxRecDepth 100000
namespace Go.Proofs.YtdjjlghlcffflaaGreatDoor
open Go.RowKit
def nP(g o:Nat)(Z:List Int)(n m:Nat)(V:Int)(w:World)(e:Ending)(w':World):Prop:=
 ∃R,e=.returned (.tuple #[])/\R.length=n+m/\U32 R/\val R=V/\Row w' g 97 .u32 (mid Z o R)/\w.grownBy w' (some g)
def qG(n m:Nat):Prop:=∀(g o cap:Nat) (Z:List Int) (p q:Option Addr) (nc mc:Nat) (xs ys:List Int) (w:World),
  o+(n+m)<=Z.length->cap<=1099511627776->n+m<=cap->Row w g 97 .u32 Z->U32 Z->(Z.drop o).take (n+m)=au (n+m)->xs.length=n->ys.length=m->n<=nc->nc<=9223372036854775807->m<=mc->mc<=9223372036854775807->
  Rd w p .u32 xs->U32 xs->Rd w q .u32 ys->U32 ys->(0<n->Off g p)->(0<m->Off g q)->
  Calls Tryz.prog 201 #[.slice (some ⟨g,o,none⟩) (n+m) cap,.slice p n nc,.slice q m mc] w (nP g o Z n m (val xs*val ys) w)
theorem rG(n m:Nat)(hM:qG n m)(p q:Option Addr)(nc mc:Nat)(xs ys:List Int)(w:World)(hn:n<=10000000)(hm:m<=10000000)(hx:xs.length=n)(hy:ys.length=m)(hxc:n<=nc)(hxc':nc<=9223372036854775807)(hyc:m<=mc)(hyc':mc<=9223372036854775807)
  (hX:Rd w p .u32 xs) (hXu:U32 xs) (hY:Rd w q .u32 ys) (hYu:U32 ys):
  Calls Tryz.prog 174 #[.slice p n nc,.slice q m mc] w fun e w'=>∃R,e=.returned (.slice (some ⟨w.heap.size,0,none⟩) (n+m) (n+m))/\R.length=n+m/\U32 R/\val R=val xs*val ys/\Row w' w.heap.size 97 .u32 R/\Below w.heap.size w w':=by
 have hmk:=jB (n+m) (by omega)
 have ec:((n+m:Nat):Int)=(n:Int)+(m:Int):=by omega
 rw[ec] at hmk
 clear ec;have hc:=hM w.heap.size 0 (n+m) (au (n+m)) p q nc mc xs ys (w.alloc (.cells (ca .u32 (au (n+m))) 97)) (by rw[aZ];omega) (by omega) (Jr _) (Row.new w _ _ _) (eR _) (by rw[List.drop_zero,Jv (by rw[aZ];omega)]) hx hy hxc hxc' hyc hyc' (hX.alloc _) hXu (hY.alloc _) hYu (fun h=>hX.off (Jr _) (by omega)) (fun h=>hY.off (Jr _) (by omega))
 clear hx hy hM;go_enter Tryz.func174,Tryz.ntmps174;go_wp2_with fail;refine hc.mono ?_;rintro e w' ⟨R,rfl,r1,r2,r3,r4,r5⟩;have HR:Hid (R.length=n+m/\U32 R/\val R=val xs*val ys/\Row w' w.heap.size 97 .u32 (mid (au (n+m)) 0 R)/\(w.alloc (.cells (ca .u32 (au (n+m))) 97)).grownBy w' (some w.heap.size)):=⟨r1,r2,r3,r4,r5⟩;clear r1 r2 r3 r4 r5 hc hmk;go_wp2;go_ret;obtain⟨r1,r2,r3,r4,r5⟩:=HR.out;rw[wV _ _ (by rw[r1,aZ])] at r4
 exact⟨R,rfl,r1,r2,r3,r4,cQ ((Jt _ _).alloc (Jr _) _) r5 (by simp) (Jr _)⟩
theorem Ay(n m h:Nat)(hh:h=(n+1)/2)(hn80:80<=m)(hmn:m<=n)(hmh:h<m)(hnb:n<=1000000)(ih:∀k l,k+l<n+m->k<=n->l<=n->qG k l)
  (g o cap:Nat) (Z:List Int) (b1 f1 b2 f2:Nat) (nc mc:Nat) (xs ys:List Int) (w:World)
  (hz:o+(n+m)<=Z.length) (hcap:cap<=1099511627776) (hnc:n+m<=cap) (hR:Row w g 97 .u32 Z) (hUZ:U32 Z) (hZ:(Z.drop o).take (n+m)=au (n+m)) (hx:xs.length=n) (hy:ys.length=m) (hxc:n<=nc) (hxc':nc<=9223372036854775807) (hyc:m<=mc) (hyc':mc<=9223372036854775807)
  (hX:Rd w (some ⟨b1,f1,none⟩) .u32 xs) (hXu:U32 xs) (hY:Rd w (some ⟨b2,f2,none⟩) .u32 ys) (hYu:U32 ys) (hg1:b1≠g) (hg2:b2≠g):
  Calls Tryz.prog 210 #[.slice (some ⟨g,o,none⟩) (n+m) cap,.slice (some ⟨b1,f1,none⟩) n nc,.slice (some ⟨b2,f2,none⟩) m mc,.int .i64 h] w (nP g o Z n m (val xs*val ys) w):=by
 have hb1:h+h<n+m:=by omega
 have hb2:h+1+(h+1)<n+m:=by omega
 have hb3:n<=h+h:=by omega
 have hb4:n-h+(m-h)<n+m:=by omega
 have hb5:h<n:=by omega
 have HL:Hid (h=(n+1)/2/\xs.length=n/\ys.length=m):=⟨hh,hx,hy⟩;clear hh hx hy;have e1:2*(h:Int)<=(cap:Int):=by omega
 have e2:2*(h:Int)<=(n:Int)+(m:Int):=by omega
 have e3:(h:Int)<=(nc:Int):=by omega
 have e4:(h:Int)<=(mc:Int):=by omega
 have e5:(h:Int)<=(n:Int):=by omega
 have e6:(h:Int)<=(n:Int)+(m:Int):=by omega
 have e10:(h:Int)<=(m:Int):=by omega
 have e7:¬nc=h:=by omega
 have e8:¬mc=h:=by omega
 have e9:¬cap=h:=by omega
 go_enter Tryz.func210,Tryz.ntmps210;go_wp2;go_quiet (fail);have hRq:Row (w.drewN nq) g 97 .u32 Z:=hR;have hXq:Rd (w.drewN nq) (some ⟨b1,f1,none⟩) .u32 xs:=hX;have hYq:Rd (w.drewN nq) (some ⟨b2,f2,none⟩) .u32 ys:=hY;have hgq:w.grownBy (w.drewN nq) (some g):=vx (ck _ _) nq;go_wp2;generalize w.drewN nq=W at *
 rw[show n+m-2*h=(n-h)+(m-h) by omega]
 have m1:=ih h h hb1 (by omega) (by omega) g o cap Z (some ⟨b1,f1,none⟩) (some ⟨b2,f2,none⟩) nc mc (xs.take h) (ys.take h)
 have HM:Hid (qG (n-h) (m-h)/\qG (h+1) (h+1)):=⟨ih (n-h) (m-h) hb4 (by omega) (by omega),ih (h+1) (h+1) hb2 (by omega) (by omega)⟩
 rw[show h+h=2*h by omega] at m1
 have hA1:=m1 W.drew (by omega) hcap (by omega) hRq.drew hUZ (by
  have:(Z.drop o).take (2*h)=((Z.drop o).take (n+m)).take (2*h):=by rw[List.take_take,Nat.min_eq_left (by omega)]
  rw[this,hZ];simp[au];omega) (by have:=HL.out;simp;omega) (by have:=HL.out;simp;omega) (by omega) hxc' (by omega) hyc' (hXq.take h).drew (an hXu _) (hYq.take h).drew (an hYu _) (fun _ a ha=>by cases ha;exact hg1) (fun _ a ha=>by cases ha;exact hg2)
 have HZ:Hid ((Z.drop o).take (n+m)=au (n+m)):=hZ;clear m1 ih hZ;go_region_held3 (fun _=>True) (trivial) ((go_at_call 201;refine hA1.mono ?_;rintro e w1 ⟨R1,rfl,r1,r2,r3,r4,r5⟩))
 have hX1:Rd w1 (some ⟨b1,f1,none⟩) .u32 xs:=hXq.drew.dw r5 (fun a ha=>by cases ha;exact hg1)
 have hY1:Rd w1 (some ⟨b2,f2,none⟩) .u32 ys:=hYq.drew.dw r5 (fun a ha=>by cases ha;exact hg2)
 have hG1:w.grownBy w1 (some g):=c8 (dR hgq) r5;have hA2:=HM.out.1 g (o+2*h) (cap-2*h) (mid Z o R1) (some ⟨b1,f1+h,none⟩) (some ⟨b2,f2+h,none⟩) (nc-h) (mc-h) (xs.drop h) (ys.drop h) w1.drew (by rw[b6 _ _ _ (by omega)];omega) (by omega) (by omega) r4.drew (uw hUZ r2) (by
  refine dm _ _ (by simp[au,b6 Z R1 o (by omega)];omega) fun j hj=>?_
  have hj':j<(n-h)+(m-h):=by simp at hj;omega
  rw[bm _ _ _ hj',bC,jz _ _ _ _ (by omega),if_neg (by omega),dT]
  have h1:=Gz Z o (n+m) (2*h+j) (by omega)
  rw[HZ.out,dT] at h1
  rw[h1];congr 1;omega) (by have:=HL.out;simp;omega) (by have:=HL.out;simp;omega) (by omega) (by omega) (by omega) (by omega) (mn hX1 h).drew (cd hXu _) (mn hY1 h).drew (cd hYu _) (fun _ a ha=>by cases ha;exact hg1) (fun _ a ha=>by cases ha;exact hg2)
 have H1:Hid (R1.length=h+h/\U32 R1/\val R1=val (xs.take h)*val (ys.take h)):=⟨r1,r2,r3⟩;clear r1 r2 r3 r4 r5 hRq hXq hYq hgq hA1 hR hX hY;go_wp2;go_region_held3 (fun _=>True) (trivial) ((go_at_call 201;refine hA2.mono ?_;rintro e w2 ⟨R2,rfl,r1,r2,r3,r4,r5⟩))
 have hX2:Rd w2 (some ⟨b1,f1,none⟩) .u32 xs:=hX1.drew.dw r5 (fun a ha=>by cases ha;exact hg1)
 have hY2:Rd w2 (some ⟨b2,f2,none⟩) .u32 ys:=hY1.drew.dw r5 (fun a ha=>by cases ha;exact hg2)
 have hG2:w.grownBy w2 (some g):=c8 (dR hG1) r5;have hlen1:=H1.out.1;rw[show o+2*h=o+R1.length by omega,Ed _ _ _ _ (by omega)] at r4
 have H2:Hid (R2.length=(n-h)+(m-h)/\U32 R2/\val R2=val (xs.drop h)*val (ys.drop h)/\Row w2 g 97 .u32 (mid Z o (R1++R2))/\w.grownBy w2 (some g)):=⟨r1,r2,r3,r4,hG2⟩;clear r1 r2 r3 r4 r5 hA2 hX1 hY1 hG1 hG2 hlen1;go_wp2;have hs1:=fun W (hx:Rd W (some ⟨b1,f1,none⟩) .u32 xs)=>CZ (some ⟨b1,f1,none⟩) (some ⟨b1,f1+h,none⟩) h nc (n-h) (nc-h) (xs.take h) (xs.drop h) W (by have:=HL.out;simp;omega) (by have:=HL.out;simp;omega) (by omega) (by omega) (hx.take h) (an hXu _) (mn hx h) (cd hXu _)
 have hs2:=fun W (hy:Rd W (some ⟨b2,f2,none⟩) .u32 ys)=>CZ (some ⟨b2,f2,none⟩) (some ⟨b2,f2+h,none⟩) h mc (m-h) (mc-h) (ys.take h) (ys.drop h) W (by have:=HL.out;simp;omega) (by have:=HL.out;simp;omega) (by omega) (by omega) (hy.take h) (an hYu _) (mn hy h) (cd hYu _)
 have hs1':=hs1 w2.drew hX2.drew;go_region_held3 (fun _=>True) (trivial) (first
  |(go_at_call_of 148 (Value.slice (some ⟨b1,f1,none⟩) h nc);refine hs1'.mono ?_;rintro e w3 ⟨S1,rfl,s1,s2,s3,s4,s5⟩)
  |(go_at_call_of 148 (Value.slice (some ⟨b2,f2,none⟩) h mc);refine(hs2 _ (hY2.drew.below s5)).mono ?_;rintro e w4 ⟨S2,rfl,t1,t2,t3,t4,t5⟩)
  |(go_at_call 174;refine(rG (h+1) (h+1) HM.out.2 (some ⟨w2.heap.size,0,none⟩) (some ⟨w3.heap.size,0,none⟩) (h+1) (h+1) S1 S2 _ (by omega) (by omega) s1 t1 (Jr _) (by omega) (Jr _) (by omega) (s4.below t5 s4.lt).a8 s2 t4.a8 t2).mono ?_;rintro e w5 ⟨Md,rfl,u1,u2,u3,u4,u5⟩))
 have hb24:Below w2.heap.size w2 w4:=ae (aQ s5) t5;have hb25:Below w2.heap.size w2 w5:=ae hb24 u5;have hgm:g<w4.heap.size:=JE H2.out.2.2.2.1.lt hb24.size;have H3:Hid (Md.length=h+1+(h+1)/\U32 Md/\val Md=(val (xs.take h)+val (xs.drop h))*(val (ys.take h)+val (ys.drop h))/\Row w5 w4.heap.size 97 .u32 Md/\Row w5 g 97 .u32 (mid Z o (R1++R2))/\w.grownBy w5 (some g)/\g<w4.heap.size/\w.heap.size<=w4.heap.size):=by
  refine⟨u1,u2,by rw[u3,s3,t3],u4,H2.out.2.2.2.1.below hb25 H2.out.2.2.2.1.lt,c8 H2.out.2.2.2.2 (c7 hb25 _),hgm,?_⟩
  have:=H2.out.2.2.2.2.size;have:=hb24.size;omega
 clear hs1 hs2 hs1' s1 s2 s3 s4 s5 t1 t2 t3 t4 t5 u1 u2 u3 u4 u5 hb24 hb25 hX2 hY2 hgm;generalize w4.heap.size=gm at *
 have hlo:Rd w5 (some ⟨g,o,none⟩) .u32 R1:=by
  have h1:=H1.out.1;have h2:=H2.out.1;have:=oK (j:=0) (m:=h+h) H3.out.2.2.2.2.1 (by simp;omega) (by simp;omega)
  rw[Nat.add_zero,List.drop_zero,<-h1,List.take_left] at this
  exact this
 have htf:=kI gm 0 (h+1+(h+1)) (h+1+(h+1)) Md (some ⟨g,o,none⟩) (2*h) cap R1 w5 (by rw[H3.out.1];omega) (by omega) (Jr _) H3.out.2.2.2.1 H3.out.2.1 (by have:=H1.out.1;omega) (by omega) hlo H1.out.2.1 (fun _ a ha=>by cases ha;have:=H3.out.2.2.2.2.2.2.1;show g≠gm;omega)
 clear hlo;go_wp2_with fail;refine htf.mono ?_;clear htf;rintro e w6 ⟨c1,N1,rfl,n1,n2,n3,n4,n5,n6,n7⟩;rw[List.drop_zero,Jv (by rw[H3.out.1];omega)] at n5
 have hM0:Md.take 0++N1++Md.drop (0+(h+1+(h+1)))=N1:=by rw[List.take_zero,List.nil_append,Nat.zero_add,JL (by rw[H3.out.1];omega),List.append_nil]
 rw[hM0] at n6
 have hxl:=ar (an hXu h);have hxh:=ar (cd hXu h);have hyl:=ar (an hYu h);have hyh:=ar (cd hYu h);have H4:Hid (N1.length=h+1+(h+1)/\U32 N1/\val N1+val (xs.take h)*val (ys.take h)=(val (xs.take h)+val (xs.drop h))*(val (ys.take h)+val (ys.drop h))/\Row w6 gm 97 .u32 N1/\Row w6 g 97 .u32 (mid Z o (R1++R2))/\w.grownBy w6 (some g)/\g<gm):=by
  have hlt:=bN n2;rw[n1] at hlt
  have hmul:val (xs.take h)*val (ys.take h)<=(val (xs.take h)+val (xs.drop h))*(val (ys.take h)+val (ys.drop h)):=Int.mul_le_mul (by omega) (by omega) hyl (by omega)
  rw[H3.out.2.2.1,H1.out.2.2] at n5
  have hc:=zr n5 hlt hmul n3 n4;rw[hc,JC,Int.add_zero] at n5
  have h7:=H3.out.2.2.2.2.2.2;refine⟨n1,n2,n5,n6,H3.out.2.2.2.2.1.kept n7 (fun e=>by have:=Option.some.inj e;omega),?_,h7.1⟩
  have h8:=H3.out.2.2.2.2.2.1;exact⟨n7.os.trans h8.os,n7.tape.trans h8.tape,n7.output.trans h8.output,JA h8.size n7.size,fun i hi hne=>(n7.block i (JE hi h8.size) (fun e=>by have:=Option.some.inj e;omega)).trans (h8.block i hi hne)⟩
 have HGM:Hid (w.heap.size<=gm):=H3.out.2.2.2.2.2.2.2;clear n1 n2 n3 n4 n5 n6 n7 hM0 H3;have hhi:Rd w6 (some ⟨g,o+2*h,none⟩) .u32 R2:=by
  have h1:=H1.out.1;have h2:=H2.out.1;have:=oK (j:=2*h) (m:=(n-h)+(m-h)) H4.out.2.2.2.2.1 (by simp;omega) (by simp;omega)
  rw[show(R1++R2).drop (2*h)=R2 by rw[show 2*h=R1.length by omega];exact List.drop_left,Jv (by omega)] at this
  exact this
 have htf:=kI gm 0 (h+1+(h+1)) (h+1+(h+1)) N1 (some ⟨g,o+2*h,none⟩) ((n-h)+(m-h)) (cap-2*h) R2 w6 (by rw[H4.out.1];omega) (by omega) (Jr _) H4.out.2.2.2.1 H4.out.2.1 H2.out.1 (by omega) hhi H2.out.2.1 (fun _ a ha=>by cases ha;have:=H4.out.2.2.2.2.2.2;show g≠gm;omega)
 clear hhi;go_wp2_with fail;refine htf.mono ?_;clear htf;rintro e w7 ⟨c2,N2,rfl,n1,n2,n3,n4,n5,n6,n7⟩;rw[List.drop_zero,Jv (by rw[H4.out.1];omega)] at n5
 have hM0:N1.take 0++N2++N1.drop (0+(h+1+(h+1)))=N2:=by rw[List.take_zero,List.nil_append,Nat.zero_add,JL (by rw[H4.out.1];omega),List.append_nil]
 rw[hM0] at n6
 have H5:Hid (N2.length=h+1+(h+1)/\U32 N2/\val N2+val (xs.take h)*val (ys.take h)+val (xs.drop h)*val (ys.drop h)=(val (xs.take h)+val (xs.drop h))*(val (ys.take h)+val (ys.drop h))/\Row w7 gm 97 .u32 N2/\Row w7 g 97 .u32 (mid Z o (R1++R2))/\w.grownBy w7 (some g)/\g<gm):=by
  have hlt:=bN n2;rw[n1] at hlt
  have e:=H4.out.2.2.1;have hmul:val (xs.drop h)*val (ys.drop h)<=val N1:=by
   have a1:=JJ hxl hyh;have a2:=JJ hxh hyl;have a3:(val (xs.take h)+val (xs.drop h))*(val (ys.take h)+val (ys.drop h))=val (xs.take h)*val (ys.take h)+val (xs.take h)*val (ys.drop h)+val (xs.drop h)*val (ys.take h)+val (xs.drop h)*val (ys.drop h):=by grind
   omega
  rw[H2.out.2.2.1] at n5
  have hc:=zr n5 hlt hmul n3 n4;rw[hc,JC,Int.add_zero] at n5
  have h7:=H4.out.2.2.2.2.2.2;refine⟨n1,n2,by omega,n6,H4.out.2.2.2.2.1.kept n7 (fun e=>by have:=Option.some.inj e;omega),?_,h7⟩
  have h8:=H4.out.2.2.2.2.2.1;have h9:w.heap.size<=gm:=HGM.out;exact⟨n7.os.trans h8.os,n7.tape.trans h8.tape,n7.output.trans h8.output,JA h8.size n7.size,fun i hi hne=>(n7.block i (JE hi h8.size) (fun e=>by have:=Option.some.inj e;omega)).trans (h8.block i hi hne)⟩
 clear n1 n2 n3 n4 n5 n6 n7 hM0 H4;go_wp2_with fail;have htr:=aS (some ⟨gm,0,none⟩) (h+1+(h+1)) (h+1+(h+1)) N2 w7.drew H5.out.1 (Jr _) (by unfold maxLen;omega) H5.out.2.2.2.1.a8.drew
 have hxs:val xs=val (xs.take h)+pw h*val (xs.drop h):=jh xs h;have hys:val ys=val (ys.take h)+pw h*val (ys.drop h):=jh ys h;have hk:=kara (P:=pw h) H5.out.2.2.1;rw[<-hxs,<-hys] at hk
 have hxlt:=bN hXu;have hylt:=bN hYu;rw[HL.out.2.1] at hxlt
 rw[HL.out.2.2] at hylt
 have hprod:val xs*val ys<pw (n+m):=by
  have a0:=ar hXu;have a1:=ar hYu;have a2:val xs*val ys<=val xs*pw m:=Jx (by omega) a0
  have a3:val xs*pw m<pw n*pw m:=Int.mul_lt_mul_of_pos_right hxlt (bu m);rw[fA];omega
 have hN2n:=ar H5.out.2.1;have hml:val N2<pw (n+m-h):=by
  have a1:0<=val (xs.take h)*val (ys.take h):=JJ hxl hyl;have a2:0<=pw h*pw h*(val (xs.drop h)*val (ys.drop h)):=JJ (JJ (Int.le_of_lt (bu h)) (Int.le_of_lt (bu h))) (JJ hxh hyh);have a3:pw h*val N2<pw h*pw (n+m-h):=by rw[<-fA,show h+(n+m-h)=n+m by omega];omega
  exact Int.lt_of_mul_lt_mul_left a3 (Int.le_of_lt (bu h))
 have htl:ad N2<=n+m-h:=by
  rcases Ju (n+m-h) (ad N2) with h1|h1
  ·have h2:=bV H5.out.2.1 (by omega)
   have h3:pw (n+m-h)<=pw (ad N2-1):=aW (by omega)
   omega
  ·exact h1
 have htl2:=aj N2;have hadd:=gK g (o+h) (n+m-h) (cap-h) (mid Z o (R1++R2)) (some ⟨gm,0,none⟩) (ad N2) (h+1+(h+1)) (tr N2) w7.drew (by rw[b6 _ _ _ (by have:=H1.out.1;have:=H2.out.1;simp;omega)];omega) (by omega) (by omega) H5.out.2.2.2.2.1.drew (uw hUZ (aO H1.out.2.1 H2.out.2.1)) (af N2) htl H5.out.2.2.2.1.a8.tr.drew (cC H5.out.2.1) (fun _ a ha=>by cases ha;have:=H5.out.2.2.2.2.2.2;show gm≠g;omega)
 have HK:Hid (val (xs.take h)*val (ys.take h)+pw h*pw h*(val (xs.drop h)*val (ys.drop h))+pw h*val N2=val xs*val ys/\val xs*val ys<pw (n+m)):=⟨hk,hprod⟩;clear hxs hys hk hxlt hylt hprod hml htl htl2 hN2n;go_region_held3 (fun _=>True) (trivial) (first
  |(go_at_call 78;refine htr.mono ?_;rintro e w8 ⟨rfl,rfl⟩)
  |(go_at_call 184;refine hadd.mono ?_;rintro e w9 ⟨c,new,rfl,n1,n2,n3,n4,n5,n6,n7⟩))
 have HF:Hid (new.length=n+m-h/\U32 new/\0<=c/\c<=1/\val new+pw (n+m-h)*c=val (((mid Z o (R1++R2)).drop (o+h)).take (n+m-h))+val (tr N2)/\Row w9 g 97 .u32 ((mid Z o (R1++R2)).take (o+h)++new++(mid Z o (R1++R2)).drop (o+h+(n+m-h)))/\w7.drew.grownBy w9 (some g)):=⟨n1,n2,n3,n4,n5,n6,n7⟩;clear n1 n2 n3 n4 n5 n6 n7 htr hadd;go_wp2;go_end0;obtain⟨n1,n2,n3,n4,n5,n6,n7⟩:=HF.out;have l1:=H1.out.1;have l2:=H2.out.1;have lRR:(R1++R2).length=n+m:=by simp;omega
 rw[nK Z (R1++R2) o h (n+m-h) (by omega) (by omega),aK] at n5
 have hmm:(mid Z o (R1++R2)).take (o+h)++new++(mid Z o (R1++R2)).drop (o+h+(n+m-h))=mid Z o ((R1++R2).take h++new):=by
  rw[<-zn Z (R1++R2) new o h (by omega) (by omega)]
  unfold mid;rw[n1]
 rw[hmm] at n6
 have hRR:=jh (R1++R2) h;have hap:=bq R1 R2;rw[l1,fA,H1.out.2.2,H2.out.2.2.1] at hap
 have hval:val ((R1++R2).take h++new)=val ((R1++R2).take h)+pw h*val new:=by
  rw[bq,List.length_take,Nat.min_eq_left (by omega)]
 have htot:val ((R1++R2).take h++new)+pw (n+m)*c=val xs*val ys:=by
  have e1:pw (n+m)=pw h*pw (n+m-h):=by rw[<-fA,show h+(n+m-h)=n+m by omega]
  have e2:=congrArg (fun z=>pw h*z) n5
  simp only[JF] at e2
  rw[hval,e1,JG];have:=HK.out.1;omega
 have hR0:0<=val ((R1++R2).take h++new):=ar (aO (an (aO H1.out.2.1 H2.out.2.1) _) n2);have hc:=wY htot hR0 HK.out.2 n3 n4;rw[hc,JC,Int.add_zero] at htot
 exact⟨(R1++R2).take h++new,rfl,by rw[List.length_append,List.length_take,lRR];omega,aO (an (aO H1.out.2.1 H2.out.2.1) _) n2,htot,n6,c8 (dR H5.out.2.2.2.2.2.1) n7⟩
theorem Ct(xs ys:List Int)(i m n j:Nat)(hx:xs.length=n)(hj:j=min (i+m) n)(hij:i<=j):val (xs.take (i+m))*val ys=val (xs.take i)*val ys+pw i*(val ((xs.drop i).take (j-i))*val ys):=by
 have e1:xs.take (i+m)=xs.take j:=by
  rcases Nat.le_total (i+m) n with h|h
  ·rw[hj,Nat.min_eq_left h]
  ·rw[hj,Nat.min_eq_right h,Jv (by omega),Jv (by omega)]
 have e2:=jh (xs.take j) i;rw[List.take_take,Nat.min_eq_left hij,List.drop_take] at e2
 rw[e1,e2];grind
variable {xs ys:List Int} {n m:Nat}
theorem Cz(hX:U32 xs)(hY:U32 ys)(hx:xs.length<=n)(hy:ys.length<=m):val xs*val ys<pw (n+m):=by
 have a0:=ar hX;have a1:=ar hY;have h1:=Int.lt_of_lt_of_le (bN hX) (aW hx);have h2:=Int.lt_of_lt_of_le (bN hY) (aW hy);have a2:val xs*val ys<=val xs*pw m:=Jx (by omega) a0
 have a3:val xs*pw m<pw n*pw m:=Int.mul_lt_mul_of_pos_right h1 (bu m);rw[fA];omega
theorem AK(n m:Nat)(hm80:80<=m)(hmn:m<=n)(hnb:n<=1000000)(ih:∀k,k<=m->qG k m)
  (g o cap:Nat) (Z:List Int) (b1 f1 b2 f2:Nat) (nc mc:Nat) (xs ys:List Int) (w:World)
  (hz:o+(n+m)<=Z.length) (hcap:cap<=1099511627776) (hnc:n+m<=cap) (hR:Row w g 97 .u32 Z) (hUZ:U32 Z) (hZ:(Z.drop o).take (n+m)=au (n+m)) (hx:xs.length=n) (hy:ys.length=m) (hxc:n<=nc) (hxc':nc<=9223372036854775807) (hyc:m<=mc) (hyc':mc<=9223372036854775807)
  (hX:Rd w (some ⟨b1,f1,none⟩) .u32 xs) (hXu:U32 xs) (hY:Rd w (some ⟨b2,f2,none⟩) .u32 ys) (hYu:U32 ys) (hg1:b1≠g) (hg2:b2≠g):
  Calls Tryz.prog 209 #[.slice (some ⟨g,o,none⟩) (n+m) cap,.slice (some ⟨b1,f1,none⟩) n nc,.slice (some ⟨b2,f2,none⟩) m mc] w (nP g o Z n m (val xs*val ys) w):=by
 have HL:Hid (xs.length=n/\ys.length=m/\(Z.drop o).take (n+m)=au (n+m)/\Row w g 97 .u32 Z/\Rd w (some ⟨b1,f1,none⟩) .u32 xs/\Rd w (some ⟨b2,f2,none⟩) .u32 ys):=⟨hx,hy,hZ,hR,hX,hY⟩;have HI:Hid (∀k,k<=m->qG k m):=ih;clear hx hy hZ hR hX hY ih;go_enter Tryz.func209,Tryz.ntmps209;go_wp2;go_loopw [6,7] (fun iv _ wr=>∃(i:Nat) (R:List Int),iv=.int .i64 i/\i<=n+m/\Hid (R.length=n+m/\U32 R/\val R=val (xs.take i)*val ys/\Row wr g 97 .u32 (mid Z o R)/\w.grownBy wr (some g))) (fun iv _ _=>n-(intOf iv).toNat)
 case atStart=>
  exact⟨0,au (n+m),by go_num,Jz _,aZ _,eR _,by simp[val_zero,val],by rw[<-HL.out.2.2.1,kq Z o (n+m) hz];exact HL.out.2.2.2.1,ck _ _⟩
 case round=>
  obtain⟨i,R,rfl,hi,H⟩:=hrel;by_cases hlt:i<n
  ·obtain⟨j,hj⟩:∃j,j=min (i+m) n:=⟨_,rfl⟩
   have e1:min ((i:Int)+(m:Int)) (n:Int)=(j:Int):=by omega
   have j1:i<j:=by omega
   have j2:j<=n:=by omega
   have j3:j-i<=m:=by omega
   have j4:¬nc=i:=by omega
   have j5:¬cap=i:=by omega
   have j6:j<=nc:=by omega
   have k1:(i:Int)<=(n:Int)+(m:Int):=by omega
   have k2:(i:Int)<=(cap:Int):=by omega
   have HJ:Hid (j=min (i+m) n):=hj;clear hj;have hXr:=HL.out.2.2.2.2.1.dw H.out.2.2.2.2 (fun a ha=>by cases ha;exact hg1)
   have hYr:=HL.out.2.2.2.2.2.dw H.out.2.2.2.2 (fun a ha=>by cases ha;exact hg2)
   go_wp2;all_goals
    have hpr:=rG (j-i) m (HI.out (j-i) j3) (some ⟨b1,f1+i,none⟩) (some ⟨b2,f2,none⟩) (nc-i) mc ((xs.drop i).take (j-i)) ys wr.drew (by omega) (by omega) (by have:=HL.out.1;simp;omega) HL.out.2.1 (by omega) (by omega) hyc hyc' ((mn hXr i).take (j-i)).drew (an (cd hXu _) _) hYr.drew hYu
    have HJ':=HJ.out;first
     |rw[show((i:Int)+(m:Int)).toNat-i=j-i by omega]
     |rw[show n-i=j-i by omega]
     |skip
    clear HJ' e1;have hH:=H.out;have hRr:=hH.2.2.2.1;have hg8:g<wr.heap.size:=hRr.lt;go_region_held3 (fun _=>True) (trivial) (first
     |(go_at_call 174;refine hpr.mono ?_;rintro e w1 ⟨R2,rfl,r1,r2,r3,r4,r5⟩)
     |(go_at_call 184;refine(gK g (o+i) (n+m-i) (cap-i) (mid Z o R) (some ⟨wr.heap.size,0,none⟩) (j-i+m) (j-i+m) R2 w1 (by rw[b6 _ _ _ (by omega)];omega) (by omega) (by omega) (hRr.drew.below r5 hg8) (uw hUZ hH.2.1) r1 (by omega) r4.a8 r2 (fun _ a ha=>by cases ha;show wr.heap.size≠g;omega)).mono ?_;rintro e w2 ⟨c,new,rfl,n1,n2,n3,n4,n5,n6,n7⟩))
    all_goals
     have HF:Hid ((R2.length=j-i+m/\U32 R2/\val R2=val ((xs.drop i).take (j-i))*val ys)/\(new.length=n+m-i/\U32 new/\0<=c/\c<=1/\val new+pw (n+m-i)*c=val (((mid Z o R).drop (o+i)).take (n+m-i))+val R2/\Row w2 g 97 .u32 ((mid Z o R).take (o+i)++new++(mid Z o R).drop (o+i+(n+m-i))))/\w.grownBy w2 (some g)):=⟨⟨r1,r2,r3⟩,⟨n1,n2,n3,n4,n5,n6⟩,c8 (c8 (dR hH.2.2.2.2) (c7 r5 _)) n7⟩;clear r1 r2 r3 r4 r5 n1 n2 n3 n4 n5 n6 n7 hpr hH hRr hXr hYr;go_wp2;obtain⟨⟨r1,r2,r3⟩,⟨n1,n2,n3,n4,n5,n6⟩,n7⟩:=HF.out;obtain⟨l1,u1,v1,-,-⟩:=H.out;rw[nK Z R o i (n+m-i) (by omega) (by omega)] at n5
     have hmm:(mid Z o R).take (o+i)++new++(mid Z o R).drop (o+i+(n+m-i))=mid Z o (R.take i++new):=by
      rw[<-zn Z R new o i (by omega) (by omega)]
      unfold mid;rw[n1]
     rw[hmm] at n6
     have hRR:=jh R i;have hval:val (R.take i++new)=val (R.take i)+pw i*val new:=by
      rw[bq,List.length_take,Nat.min_eq_left (by omega)]
     have hpv:=Ct xs ys i m n j HL.out.1 HJ.out (by omega)
     have htot:val (R.take i++new)+pw (n+m)*c=val (xs.take (i+m))*val ys:=by
      have e1:pw (n+m)=pw i*pw (n+m-i):=by rw[<-fA,show i+(n+m-i)=n+m by omega]
      have e2:=congrArg (fun z=>pw i*z) n5
      simp only[JF] at e2
      rw[hval,e1,JG,hpv,<-v1,hRR,<-r3];omega
     have hR0:0<=val (R.take i++new):=ar (aO (an u1 _) n2);have hc:=wY htot hR0 (Cz (an hXu _) hYu (by have:=HL.out.1;rw[List.length_take];omega) (by have:=HL.out.2.1;omega)) n3 n4
     rw[hc,JC,Int.add_zero] at htot
     exact⟨⟨i+m,R.take i++new,by go_num,by omega,by rw[List.length_append,List.length_take,l1];omega,aO (an u1 _) n2,htot,n6,n7⟩,by simp[intOf];omega⟩
  ·go_wp2
   go_end0;obtain⟨h1,h2,h3,h4,h5⟩:=H.out;rw[Jv (by have:=HL.out.1;omega)] at h3
   exact⟨R,rfl,h1,h2,h3,h4,h5⟩
theorem wX:∀s n m,n+m<=s->n<=1000000->m<=1000000->qG n m:=by
 intro s;induction s with
 |zero=>
  intro n m hs hn hm;intro g o cap Z p q nc mc xs ys w hz hcap hnc hR hUZ hZ hx hy hxc hxc' hyc hyc' hX hXu hY hYu hp hq;exact(iV g o cap Z p q n nc m mc xs ys w hz hcap hnc hR hZ hx hy hX hXu hY hYu hp hq (.inl (by omega))).mono fun e w' h=>h
 |succ s ih=>
  intro n m hs hn hm;by_cases h80:n<80\/m<80
  ·intro g o cap Z p q nc mc xs ys w hz hcap hnc hR hUZ hZ hx hy hxc hxc' hyc hyc' hX hXu hY hYu hp hq
   exact(iV g o cap Z p q n nc m mc xs ys w hz hcap hnc hR hZ hx hy hX hXu hY hYu hp hq h80).mono fun e w' h=>h
  ·have key:∀a b,a+b<=s+1->a<=1000000->80<=b->b<=a->∀(g o cap:Nat) (Z:List Int) (b1 f1 b2 f2:Nat) (nc mc:Nat) (xs ys:List Int) (w:World),o+(a+b)<=Z.length->cap<=1099511627776->a+b<=cap->Row w g 97 .u32 Z->U32 Z->(Z.drop o).take (a+b)=au (a+b)->xs.length=a->ys.length=b->a<=nc->nc<=9223372036854775807->b<=mc->mc<=9223372036854775807->
     Rd w (some ⟨b1,f1,none⟩) .u32 xs->U32 xs->Rd w (some ⟨b2,f2,none⟩) .u32 ys->U32 ys->b1≠g->b2≠g->
     (b<=(a+1)/2/\Calls Tryz.prog 209 #[.slice (some ⟨g,o,none⟩) (a+b) cap,.slice (some ⟨b1,f1,none⟩) a nc,.slice (some ⟨b2,f2,none⟩) b mc] w (nP g o Z a b (val xs*val ys) w))\/
     ((a+1)/2<b/\Calls Tryz.prog 210 #[.slice (some ⟨g,o,none⟩) (a+b) cap,.slice (some ⟨b1,f1,none⟩) a nc,.slice (some ⟨b2,f2,none⟩) b mc,.int .i64 ((a+1)/2:Nat)] w (nP g o Z a b (val xs*val ys) w)):=by
    intro a b hab ha hb hba g o cap Z b1 f1 b2 f2 nc mc xs ys w hz hcap hnc hR hUZ hZ hx hy hxc hxc' hyc hyc' hX hXu hY hYu hg1 hg2;rcases Ju ((a+1)/2) b with h1|h1
    ·exact .inr ⟨h1,Ay a b _ rfl hb hba h1 ha (fun k l hkl h1 h2=>ih k l (by omega) (by omega) (by omega)) g o cap Z b1 f1 b2 f2 nc mc xs ys w hz hcap hnc hR hUZ hZ hx hy hxc hxc' hyc hyc' hX hXu hY hYu hg1 hg2⟩
    ·exact .inl ⟨h1,AK a b hb hba ha (fun k hk=>ih k b (by omega) (by omega) (by omega)) g o cap Z b1 f1 b2 f2 nc mc xs ys w hz hcap hnc hR hUZ hZ hx hy hxc hxc' hyc hyc' hX hXu hY hYu hg1 hg2⟩
   intro g o cap Z p q nc mc xs ys w hz hcap hnc hR hUZ hZ hx hy hxc hxc' hyc hyc' hX hXu hY hYu hp hq;obtain⟨b1,f1,rfl,_⟩:=hX (by omega)
   obtain⟨b2,f2,rfl,_⟩:=hY (by omega)
   by_cases hlt:n<m
   ·have hv:=key m n (by omega) hm (by omega) (by omega) g o cap Z b2 f2 b1 f1 mc nc ys xs w (by omega) hcap (by omega) hR hUZ (by rw[Nat.add_comm m n];exact hZ) hy hx hyc hyc' hxc hxc' hY hYu hX hXu (hq (by omega) _ rfl) (hp (by omega) _ rfl)
    obtain⟨h,hh⟩:∃h,h=(m+1)/2:=⟨_,rfl⟩;rw[<-hh] at hv
    have q1:((m:Int)+1)/2=(h:Int):=by omega
    have q2:¬(n:Int)<80:=by omega
    have q4:(n:Int)<(m:Int):=by omega
    rw[Nat.add_comm m n] at hv
    have HX:Hid (val ys*val xs=val xs*val ys):=JI _ _;clear hh ih hx hy hZ key;rcases hv with ⟨h1,hv⟩|⟨h1,hv⟩
    ·have q3:(n:Int)<=(h:Int):=by omega
     go_enter Tryz.func201,Tryz.ntmps201;go_wp2_with fail;refine hv.mono ?_;rintro e w1 ⟨R,rfl,r1,r2,r3,r4,r5⟩;have HR:Hid (R.length=n+m/\U32 R/\val R=val xs*val ys/\Row w1 g 97 .u32 (mid Z o R)/\w.grownBy w1 (some g)):=⟨by omega,r2,r3.trans HX.out,r4,r5⟩
     clear r1 r2 r3 r4 r5 hv;go_wp2;go_end0;obtain⟨r1,r2,r3,r4,r5⟩:=HR.out;exact⟨R,rfl,r1,r2,r3,r4,r5⟩
    ·have q3:¬(n:Int)<=(h:Int):=by omega
     go_enter Tryz.func201,Tryz.ntmps201;go_wp2_with fail;refine hv.mono ?_;rintro e w1 ⟨R,rfl,r1,r2,r3,r4,r5⟩;have HR:Hid (R.length=n+m/\U32 R/\val R=val xs*val ys/\Row w1 g 97 .u32 (mid Z o R)/\w.grownBy w1 (some g)):=⟨by omega,r2,r3.trans HX.out,r4,r5⟩
     clear r1 r2 r3 r4 r5 hv;go_wp2;go_end0;obtain⟨r1,r2,r3,r4,r5⟩:=HR.out;exact⟨R,rfl,r1,r2,r3,r4,r5⟩
   ·have hv:=key n m (by omega) hn (by omega) (by omega) g o cap Z b1 f1 b2 f2 nc mc xs ys w hz hcap hnc hR hUZ hZ hx hy hxc hxc' hyc hyc' hX hXu hY hYu (hp (by omega) _ rfl) (hq (by omega) _ rfl)
    obtain⟨h,hh⟩:∃h,h=(n+1)/2:=⟨_,rfl⟩;rw[<-hh] at hv
    have q1:((n:Int)+1)/2=(h:Int):=by omega
    have q2:¬(m:Int)<80:=by omega
    have q4:¬(n:Int)<(m:Int):=by omega
    clear hh ih hx hy hZ key;rcases hv with ⟨h1,hv⟩|⟨h1,hv⟩
    ·have q3:(m:Int)<=(h:Int):=by omega
     go_enter Tryz.func201,Tryz.ntmps201;go_wp2_with fail;refine hv.mono ?_;rintro e w1 ⟨R,rfl,r1,r2,r3,r4,r5⟩;have HR:Hid (R.length=n+m/\U32 R/\val R=val xs*val ys/\Row w1 g 97 .u32 (mid Z o R)/\w.grownBy w1 (some g)):=⟨r1,r2,r3,r4,r5⟩;clear r1 r2 r3 r4 r5 hv;go_wp2;go_end0;obtain⟨r1,r2,r3,r4,r5⟩:=HR.out;exact⟨R,rfl,r1,r2,r3,r4,r5⟩
    ·have q3:¬(m:Int)<=(h:Int):=by omega
     go_enter Tryz.func201,Tryz.ntmps201;go_wp2_with fail;refine hv.mono ?_;rintro e w1 ⟨R,rfl,r1,r2,r3,r4,r5⟩;have HR:Hid (R.length=n+m/\U32 R/\val R=val xs*val ys/\Row w1 g 97 .u32 (mid Z o R)/\w.grownBy w1 (some g)):=⟨r1,r2,r3,r4,r5⟩;clear r1 r2 r3 r4 r5 hv;go_wp2;go_end0;obtain⟨r1,r2,r3,r4,r5⟩:=HR.out;exact⟨R,rfl,r1,r2,r3,r4,r5⟩
theorem FU(s t:Bool)(p q:Option Addr)(n nc m mc:Nat)(xs ys:List Int)(w:World)(hA:AI w p n nc xs)(hB:AI w q m mc ys)(hn6:n<=1000000)(hm6:m<=1000000):
  Calls Tryz.prog 134 #[.agg #[.bool s,.slice p n nc],.agg #[.bool t,.slice q m mc]] w fun e w'=>∃s' p' n' zs,e=.returned (.agg #[.bool s',.slice p' n' n'])/\NI w.heap.size w' s' p' n' zs (aq s xs*aq t ys)/\n'<=n+m/\Below w.heap.size w w':=by
 have tx:=aj xs;have ty:=aj ys;have lx:=hA.len;have ly:=hB.len;have bx:=hA.sml;have by':=hB.sml;have zc1:n<=nc:=hA.cap;have zc2:m<=mc:=hB.cap;have zc3:nc<=9223372036854775807:=by have:=hA.bnd;unfold maxLen at this;omega
 have zc4:mc<=9223372036854775807:=by have:=hB.bnd;unfold maxLen at this;omega
 go_enter Tryz.func134,Tryz.ntmps134;go_wp2;have hX:=iJ w (.bool s) (.slice p n nc) (.bool t) (.slice q m mc) (.bool false) (.slice none 0 0) 50 50 50;generalize ((w.alloc (Obj.cells #[Value.bool s,Value.slice p n nc] 50)).alloc (Obj.cells #[Value.bool t,Value.slice q m mc] 50)).alloc (Obj.cells #[Value.bool false,Value.slice none 0 0] 50)=W at *
 have hA':=hA.below hX.below;have hB':=hB.below hX.below;have k0:=hX.ca0;have k1:=hX.ca1;have k2:=hX.cb0;have k3:=hX.cb1;go_region_held3 (fun w'=>w'.cell? ⟨w.heap.size,0,none⟩=some (.bool s)/\w'.cell? ⟨w.heap.size,1,none⟩=some (.slice p n nc)/\w'.cell? ⟨w.heap.size+1,0,none⟩=some (.bool t)/\w'.cell? ⟨w.heap.size+1,1,none⟩=some (.slice q m mc)) (first|(simp[go_sem, *];done)|exact dU (by assumption) (by assumption))
  (first
   |(go_at_call_of 78 (Value.slice p n nc);refine(aS p n nc xs _ hA.len hA.cap hA.bnd ?_).mono ?_;exact hA'.rd.drew;rintro e w' ⟨rfl,rfl⟩)
   |(go_at_call_of 78 (Value.slice q m mc);refine(aS q m mc ys _ hB.len hB.cap hB.bnd ?_).mono ?_;exact hB'.rd.drew;rintro e w' ⟨rfl,rfl⟩)
   |(go_at_call 174;refine(rG (ad xs) (ad ys) (wX _ _ _ (Jr _) (by omega) (by omega)) p q nc mc (tr xs) (tr ys) _ (by omega) (by omega) (af xs) (af ys) (by omega) (by omega) (by omega) (by omega) ?_ (cC hA.u) ?_ (cC hB.u)).mono ?_;exact hA'.tr.rd.drew;exact hB'.tr.rd.drew;rintro e w1 ⟨zs,rfl,z1,z2,z3,z4,hb1⟩)
   |(go_at_call 115;refine(b7 (s != t) (some ⟨W.heap.size,0,none⟩) (ad xs+ad ys) (ad xs+ad ys) zs _ z1 (Jr _) (by unfold maxLen;omega) ?_).mono ?_;exact z4.a8;rintro e w2 ⟨rfl,hb2⟩;obtain⟨c0,c1,f0,f1⟩:=cj ((aQ hb1).trans (hb2.mono (aQ hb1).size)) hX.cr0 hX.cr1 hX.fr0 hX.fr1))
 go_wp2;have hsz:=hX.size;have hend:=ir (z:=aq s xs*aq t ys) (sg:=s != t) (u:=.bool (nsg (s != t) zs)) (v:=.slice (nad (some ⟨W.heap.size,0,none⟩) zs) (ad zs) (ad zs)) hX.below (r:=w.heap.size+1+1) (by omega) (by omega) z4 z2 (aQ hb1) hb2 (by rw[aK,aK] at z3;exact wL s t xs ys zs z3)
 refine bodyPost_ret (v:=.agg #[.bool (nsg (s != t) zs),.slice (nad (some ⟨W.heap.size,0,none⟩) zs) (ad zs) (ad zs)]) (by simp[results,Tryz.results134,go_sem,c0,c1]) rfl ⟨_,_,_,tr zs,rfl,hend.1,?_,hend.2⟩
 have:=aj zs;omega
end Go.Proofs.YtdjjlghlcffflaaGreatDoor
