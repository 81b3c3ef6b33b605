/- Own. -/
import Derived.Test.YtfnkomoickanfaaGreatDoorN1
import Derived.Test.YtfnkomoickanfaaGreatDoorL5
set_option linter.unusedVariables false
set_option linter.unusedSimpArgs false
set_option maxHeartbeats 8000000
set_option maxRecDepth 100000
namespace Go.Proofs.YtfnkomoickanfaaGreatDoor
open Go.RowKit
theorem DA{w:World}{N M:Nat}{x y:Int}{s t:Bool}{p q:Option Addr}{n m:Nat}(h:RV w N x s p n)(k:RV w M y t q m):
  Calls Tryz.prog 35 #[.agg #[.bool s,.slice p n n],.agg #[.bool t,.slice q m m]] w fun e w'=>e=.returned (.int .i64 (a_ x y))∧Below w.heap.size w w':=by
 obtain⟨ds,h1,rfl,h3⟩:=h
 obtain⟨es,k1,rfl,k3⟩:=k
 exact vx h1 k1
theorem Dz{w:World}{Ka Kb:Nat}{sa ta sb tb:Bool}{pa qa pb qb:Option Addr}{na ma nb mb:Nat}{ra rb:Rat}(ha:MQ w Ka sa pa na ta qa ma ra)(hb:MQ w Kb sb pb nb tb qb mb rb)(hKa:1≤Ka)(hKb:1≤Kb)(hK:Ka+Kb≤240):
  Calls Tryz.prog 11 #[.agg #[.bool sa,.slice pa na na,.bool ta,.slice qa ma ma],.agg #[.bool sb,.slice pb nb nb,.bool tb,.slice qb mb mb]] w fun e w'=>e=.returned (.int .i64 (a_ (ra.num*rb.den) (rb.num*ra.den)))∧Below w.heap.size w w':=by
 go_enter Tryz.func11,Tryz.ntmps11
 go_wp2_with fail
 have hA0:Bq (((w).alloc (.cells #[.bool sa,.slice pa na na,.bool ta,.slice qa ma ma] 45)).alloc (.cells #[.bool sb,.slice pb nb nb,.bool tb,.slice qb mb mb] 45)) w.heap.size (.bool sa) (.slice pa na na) (.bool ta) (.slice qa ma ma):=(Bq.new _ _ _ _ _ rfl).alloc _
 have hB0:Bq (((w).alloc (.cells #[.bool sa,.slice pa na na,.bool ta,.slice qa ma ma] 45)).alloc (.cells #[.bool sb,.slice pb nb nb,.bool tb,.slice qb mb mb] 45)) (w.heap.size+1) (.bool sb) (.slice pb nb nb) (.bool tb) (.slice qb mb mb):=Bq.new _ _ _ _ _ (by simp)
 have hW:Below w.heap.size w (((w).alloc (.cells #[.bool sa,.slice pa na na,.bool ta,.slice qa ma ma] 45)).alloc (.cells #[.bool sb,.slice pb nb nb,.bool tb,.slice qb mb mb] 45)):=((Below.refl _ _).alloc (Nat.le_refl _) _).alloc (by simp) _
 generalize ((w).alloc (.cells #[.bool sa,.slice pa na na,.bool ta,.slice qa ma ma] 45)).alloc (.cells #[.bool sb,.slice pb nb nb,.bool tb,.slice qb mb mb] 45)=W at *
 have hqa:=ha.below hW
 have hqb:=hb.below hW
 have nA:Hid (w.heap.size≠w.heap.size+1+1):=(by omega:w.heap.size≠w.heap.size+1+1)
 have nB:Hid (w.heap.size+1≠w.heap.size+1+1):=(by omega:w.heap.size+1≠w.heap.size+1+1)
 have a0:=hA0.c0
 have a1:=hA0.c1
 have a2:=hA0.c2
 have a3:=hA0.c3
 have b0:=hB0.c0
 have b1:=hB0.c1
 have b2:=hB0.c2
 have b3:=hB0.c3
 go_region_held3 (fun w'=>w'.cell? ⟨w.heap.size,0,none⟩=some (.bool sa)∧w'.cell? ⟨w.heap.size,1,none⟩=some (.slice pa na na)∧w'.cell? ⟨w.heap.size,2,none⟩=some (.bool ta)∧w'.cell? ⟨w.heap.size,3,none⟩=some (.slice qa ma ma)∧w'.cell? ⟨w.heap.size+1,0,none⟩=some (.bool sb)∧w'.cell? ⟨w.heap.size+1,1,none⟩=some (.slice pb nb nb)∧w'.cell? ⟨w.heap.size+1,2,none⟩=some (.bool tb)∧w'.cell? ⟨w.heap.size+1,3,none⟩=some (.slice qb mb mb)) (first|with_reducible exact⟨a0,a1,a2,a3,b0,b1,b2,b3⟩|with_reducible exact gU ⟨a0,a1,a2,a3,b0,b1,b2,b3⟩ hV1|with_reducible exact gU ⟨a0,a1,a2,a3,b0,b1,b2,b3⟩ hV2|with_reducible exact gU ⟨a0,a1,a2,a3,b0,b1,b2,b3⟩ hV3|with_reducible exact sC ⟨a0,a1,a2,a3,b0,b1,b2,b3⟩ hV3 nA nB|(simp[go_sem, *];done))
  (first
   |(go_at_call_of 43 (Value.agg #[.bool sa,.slice pa na na]);go_at_call_of 43 (Value.agg #[.bool tb,.slice qb mb mb]);refine(eB hqa.num.drew hqb.den.drew (by omega) (by omega)).mono ?_;rintro e v1 ⟨s1,p1,n1,rfl,hr1,hF1,hv1⟩;have hV1:=aC hv1)
   |(go_at_call_of 43 (Value.agg #[.bool sb,.slice pb nb nb]);go_at_call_of 43 (Value.agg #[.bool ta,.slice qa ma ma]);refine(eB (hqb.num.below hV1) (hqa.den.below hV1) (by omega) (by omega)).mono ?_;rintro e v2 ⟨s2,p2,n2,rfl,hr2,hF2,hv2⟩;have hV2:=ae hV1 hv2)
   |(go_at_call 35;refine(DA (hr1.below hv2) hr2).mono ?_;rintro e v3 ⟨rfl,hv3⟩;have hV3:=ae hV2 hv3))
 clear a0 a1 a2 a3 b0 b1 b2 b3
 go_wp2
 go_ret
 exact⟨rfl,ae hW hV3⟩
theorem DJ:SzB [[-1],[1]]:=⟨by decide +kernel,by decide +kernel,by decide +kernel⟩
theorem Dk:((List.range (aD (dX 1))).map fun i=>tr (gt (dX 1) i))=[[-1],[1]]:=by decide +kernel
theorem vf:aD [[-1],[1]]=2:=by decide +kernel
theorem Dl:otr [[-1],[1]]=[[-1],[1]]:=by decide +kernel
theorem DZ:oz [[-1],[1]]=[[-1],[1]]:=by decide +kernel
theorem Bh:gt [[-1],[1]] 1=[1]:=by decide +kernel
theorem DT(i t:Nat):((gx (gt [[-1],[1]] i) t).natAbs:Int)<pw 2:=by
 match i,t with
 |0,0=>decide +kernel
 |0,t+1=>simp[gt,gx];decide +kernel
 |1,0=>decide +kernel
 |1,t+1=>simp[gt,gx];decide +kernel
 |i+2,t=>
  rw[show gt [[-1],[1]] (i+2)=[] from rfl,show gx [] t=0 by simp[gx]]
  decide +kernel
theorem Bn(r:Rat)(x:Nat):pss [[-1],[1]] (fun _=>r) x 1 = -r:=by
 show(0:Rat)+((evz (x:Int) [-1]:Int):Rat)*r = -r
 rw[show evz (x:Int) [-1] = -1 by simp[evz]]
 rw[Rat.zero_add]
 simp[Rat.neg_mul]
theorem Ed(r:Rat)(k:Nat):r = -(pss [[-1],[1]] (fun _=>r) (k-1) 1/((evz ((k-1:Nat):Int) (gt [[-1],[1]] 1):Int):Rat)):=by
 rw[Bh,Bn,show evz ((k-1:Nat):Int) [1]=1 by simp[evz]]
 have h:((1:Int):Rat)⁻¹=1:=by decide +kernel
 rw[Rat.div_def,h,Rat.mul_one,Rat.neg_neg]
theorem D2{r:Rat}{S:Nat}(hS:1≤S)(h:Sz r S)(x:Nat):∀j,j≤1→Sz (pss [[-1],[1]] (fun _=>r) x j) S
 |0,_=>vL hS
 |1,_=>by rw[Bn];exact Dg h
theorem qN{w:World}{v0 v1 v2 v3:Value}{z:Int}(h1:kU w (.agg #[v0,v1]))(h2:kU w (.agg #[v2,v3]))(h0:-9223372036854775808≤z∧z≤9223372036854775807)(hT:Tz.TzT w):
  Calls Tryz.prog 3 #[.agg #[v0,v1,v2,v3],.int .i64 z] w fun r w'=>r=.returned (.bool true)∧Below w.heap.size w w':=by
 obtain⟨s,p,n,nc,xs,e1,hl,hnc,hb,hX,hU,hp⟩:=h1
 obtain⟨t,q,m,mc,ys,e2,hl',hnc',hb',hX',hU',hp'⟩:=h2
 simp only[Value.agg.injEq,Array.mk.injEq,List.cons.injEq,and_true] at e1 e2
 obtain⟨rfl,rfl⟩:=e1
 obtain⟨rfl,rfl⟩:=e2
 have hal:=af (o:=.cells #[.bool s,.slice p n nc,.bool t,.slice q m mc] 26) (Below.refl w.heap.size w)
 have hB0:Bq (w.alloc (.cells #[.bool s,.slice p n nc,.bool t,.slice q m mc] 26)) w.heap.size (.bool s) (.slice p n nc) (.bool t) (.slice q m mc):=Bq.new _ _ _ _ _ rfl
 have HT:Hid (Tz.TzT (w.alloc (.cells #[.bool s,.slice p n nc,.bool t,.slice q m mc] 26))):=Tz.TzB hT hal
 have HX:Hid (xs.length=n∧n≤nc∧nc≤maxLen∧Rd w p .u32 xs∧U32 xs∧(p=none→nc=0)):=⟨hl,hnc,hb,hX,hU,hp⟩
 have HY:Hid (ys.length=m∧m≤mc∧mc≤maxLen∧Rd w q .u32 ys∧U32 ys∧(q=none→mc=0)):=⟨hl',hnc',hb',hX',hU',hp'⟩
 clear hl hnc hb hX hU hp hl' hnc' hb' hX' hU' hp' hT
 go_enter Tryz.func3,Tryz.ntmps3
 go_wp2_with fail
 generalize w.alloc (.cells #[.bool s,.slice p n nc,.bool t,.slice q m mc] 26)=W at *
 go_fit (tR W (Tz.xx HT.out))
 rintro e w1 ⟨rfl,hb1⟩
 have hB1:=hB0.later hb1
 have hbw:=ae hal hb1
 have hcut:=AG s t p q n nc m mc xs ys w1 HX.out.1 HX.out.2.1 HX.out.2.2.1 (HX.out.2.2.2.1.below hbw) HX.out.2.2.2.2.1 HX.out.2.2.2.2.2 HY.out.1 HY.out.2.1 HY.out.2.2.1 (HY.out.2.2.2.1.below hbw) HY.out.2.2.2.2.1 HY.out.2.2.2.2.2
 obtain⟨c0,c1,c2,c3,-,-,-,-⟩:=id hB1
 have hg1:w.heap.size<w1.heap.size:=hB1.lt
 clear hB0 hb1 hal HX HY HT
 go_wp2_with fail
 go_fit hcut
 rintro e w2 ⟨p2,n2,nc2,q2,m2,mc2,rfl,hA,hD,hn2,hm2,hFp,hFq,hb2⟩
 clear hcut c0 c1 c2 c3
 have hB2:=hB1.later hb2
 obtain⟨c0,c1,c2,c3,f0,f1,f2,f3⟩:=id hB2
 have hB3:=xC (u:=.bool s) (v:=.slice p2 n2 nc2) (x:=.bool t) (y:=.slice q2 m2 mc2) hB2
 obtain⟨r,hr⟩:∃r,Rat.divInt (ak s (xs.take 24)) (ak t (ys.take 24))=r:=⟨_,rfl⟩
 have hAQ:AQ ((((w2.setCell ⟨w.heap.size,0,none⟩ (.bool s)).setCell ⟨w.heap.size,1,none⟩ (.slice p2 n2 nc2)).setCell ⟨w.heap.size,2,none⟩ (.bool t)).setCell ⟨w.heap.size,3,none⟩ (.slice q2 m2 mc2)) 24 s p2 n2 nc2 t q2 m2 mc2 r:=
  ⟨_,_,hA.bq (fun _=>aT hFp hg1) _ _ _ _,hD.bq (fun _=>aT hFq hg1) _ _ _ _,hn2,hm2,hr⟩
 have HB3:Hid (Below w.heap.size w ((((w2.setCell ⟨w.heap.size,0,none⟩ (.bool s)).setCell ⟨w.heap.size,1,none⟩ (.slice p2 n2 nc2)).setCell ⟨w.heap.size,2,none⟩ (.bool t)).setCell ⟨w.heap.size,3,none⟩ (.slice q2 m2 mc2))):=cL (ae hbw hb2) (Nat.le_refl _) _ _ _ _
 have hco:=uz hAQ (by decide) (by decide)
 have HR:Hid (AQ ((((w2.setCell ⟨w.heap.size,0,none⟩ (.bool s)).setCell ⟨w.heap.size,1,none⟩ (.slice p2 n2 nc2)).setCell ⟨w.heap.size,2,none⟩ (.bool t)).setCell ⟨w.heap.size,3,none⟩ (.slice q2 m2 mc2)) 24 s p2 n2 nc2 t q2 m2 mc2 r):=hAQ
 obtain⟨k0,k1,k2,k3,-,-,-,-⟩:=id hB3
 clear hb2 hB1 hB2 hA hD hbw hAQ hr
 go_wp2_with fail
 generalize ((((w2.setCell ⟨w.heap.size,0,none⟩ (.bool s)).setCell ⟨w.heap.size,1,none⟩ (.slice p2 n2 nc2)).setCell ⟨w.heap.size,2,none⟩ (.bool t)).setCell ⟨w.heap.size,3,none⟩ (.slice q2 m2 mc2))=W3 at *
 go_fit hco
 rintro e w4 ⟨g,T,hh,hk,rs,rfl,hS,hk1,hW,hb4⟩
 clear hco k0 k1 k2 k3 c0 c1 c2 c3 f0 f1 f2 f3
 have hB4:=hB3.later hb4
 have HB4:Hid (Below w.heap.size w w4∧AQ w4 24 s p2 n2 nc2 t q2 m2 mc2 r∧SQ w4 g 2 1 2 W3.heap.size T (dX 1) hh hk ⟨none,0,0⟩∧hk.n=1∧WA (EQa 24) w4 hk.p hk.n hk.c rs [r]):=⟨ae HB3.out hb4,HR.out.below hb4,hS,hk1,hW⟩
 have HQ4:Hid (Bq w4 w.heap.size (.bool s) (.slice p2 n2 nc2) (.bool t) (.slice q2 m2 mc2)):=hB4
 clear hb4 hB3 HB3 HR hB4 hS hk1 hW
 go_upto_if 19 with fail
 all_goals
  go_cut [1] from 14 to 19 (fun iv w5=>∃N:Nat,N≤300∧iv=.int .i64 N∧w4=w5)
  case first=>
   rcases(show z<0∨300<z∨(0≤z∧z≤300) by omega) with h|h|h
   ·first
     |(exfalso;omega)
     |(clear h h0
       go_wp2_with fail
       go_meet
       exact⟨300,by decide,rfl,rfl⟩)
   ·first
     |(exfalso;omega)
     |(have d1:decide (z<0)=false:=decide_eq_false (by omega)
       have d2:decide (300<z)=true:=decide_eq_true h
       (try simp only[d1,d2,Bool.false_or])
       clear h h0
       go_wp2_with fail
       go_meet
       exact⟨300,by decide,rfl,rfl⟩)
   ·first
     |(exfalso;omega)
     |(have d1:decide (z<0)=false:=decide_eq_false (by omega)
       have d2:decide (300<z)=false:=decide_eq_false (by omega)
       obtain⟨k,rfl⟩:∃k:Nat,z=k:=⟨z.toNat,by omega⟩
       have hk3:k≤300:=by omega
       (try simp only[d1,d2,Bool.false_or])
       clear h h0
       go_wp2_with fail
       go_meet
       exact⟨k,hk3,rfl,rfl⟩)
  case rest=>
   obtain⟨N,hN,rfl,rfl⟩:=hcut
   have hop:=A2 HB4.out.2.2.1 (by decide) (by decide)
   rw[Dk,vf,Dl] at hop
   go_wp2_with fail
   go_fit hop
   rintro e w6 ⟨y1,hy1,p6,hs6,rfl,hNO,hb6⟩
   clear hop
   have hwi:=tH (HB4.out.2.2.1.below hb6) (HB4.out.2.2.2.2.below (dP 24) hb6) (by decide) (by rw[HB4.out.2.2.2.1];decide)
   rw[HB4.out.2.2.2.1] at hwi
   go_wp2_with fail
   go_fit hwi
   rintro e w7 ⟨q7,us,rfl,hW7,-,hb7⟩
   clear hwi
   have hHR:=(hNO.below hb7).hr (by decide) (by decide) (by decide)
   have hqb:qb r≤1000000:=Nat.le_trans (D4 (HB4.out.2.2.2.2.ev 0 (by rw[HB4.out.2.2.2.1];decide))) (by decide)
   have hde:=qU (h:=⟨p6,2,2⟩) (k:=⟨q7,1,1⟩) (l:=[[-1],[1]]) (m:=1) hHR (Nat.le_refl _) (by decide) DZ vf (by decide) Bh DJ hW7 rfl (by decide) (by decide) (fun j hj=>(by cases j with|zero=>exact hqb|succ j=>omega))
   dsimp only at hde
   have HB7:Hid (Below w4.heap.size w4 w7):=ae hb6 hb7
   clear hNO hb6 hy1 hW7 hb7 hHR hqb
   go_wp2_with fail
   go_fit hde
   rintro e w8 ⟨hcs,hb8⟩
   have HB8:Hid (Below w4.heap.size w4 w8):=ae HB7.out hb8
   clear hde hb8
   rcases hcs with rfl|⟨base,gs,B,T1,h8,wv,vv,rs8,rfl,hRS,hbase,hwv⟩
   ·have HF:Hid (Below w.heap.size w w8):=ae HB4.out.1 HB8.out
    clear HB7 HB8 HB4 HQ4
    go_wp2
    go_ret
    exact⟨rfl,HF.out⟩
   ·have HRS:Hid (RS w8 base gs B T1 4 1 2 25 [[-1],[1]] h8 wv vv rs8 [r]∧w7.heap.size≤base∧(∀y,wv≠.int .i64 y)∧base≤w8.heap.size):=⟨hRS,hbase,hwv,Nat.le_trans hRS.gb (Nat.le_of_lt (Array.getElem?_eq_some_iff.1 hRS.bx).1)⟩
    clear hRS hbase hwv
    have hsz:Sz r 24:=HB4.out.2.1.sz (by decide)
    have HV:Hid (∀wx,Below w8.heap.size w8 wx→Calls Tryz.prog 12 #[.pointer (some ⟨gs,0,none⟩),.int .i64 N] wx (VlP r 25 base wx)):=fun wx hbx=>xg (m:=1) (n:=N) (r:=1) (C:=4) (S:=25) (f:=fun _=>r) (HRS.out.1.later hbx HRS.out.2.2.2) (Nat.le_trans HRS.out.2.2.2 hbx.size) (by decide) rfl (by decide) (by omega) (by omega) HRS.out.2.2.1 (by decide) DT (by decide) (by decide) (by decide) (by decide) (by decide) (fun k _ _=>Ed r k) (fun _ _=>hsz.up (by decide)) (fun k j _ _ hj=>D2 (by decide) (hsz.up (by decide)) _ j hj)
    have hq8:=HQ4.out.later HB8.out
    obtain⟨k0,k1,k2,k3,-,-,-,-⟩:=hq8
    have hle:Hid (w4.heap.size≤base):=Nat.le_trans HB7.out.size HRS.out.2.1
    clear hsz
    go_wp2_with fail
    go_region_with (first
     |(go_at_call 12;go_fit (HV.out _ ((Below.refl _ _).drew));rintro e x1 ⟨a1,a2,a3,a4,a5,a6,rfl,hM,hbv⟩;have hbv:Below base w8 x1:=⟨hbv.os,hbv.tape,hbv.output,hbv.size,hbv.block⟩;have hB:=HB8.out.trans (hbv.mono hle.out);have hq9:=HQ4.out.later hB;obtain⟨k0,k1,k2,k3,-,-,-,-⟩:=hq9)
     |(go_at_call 13;go_fit (vy (HB4.out.2.1.below hB) (by decide) (by decide));rintro e x2 ⟨b1,b2,b3,b4,b5,b6,rfl,hM2,-,-,hb2⟩;have hB:=ae hB hb2)
     |(go_at_call 11;have hcm:=Dz (hM.below hb2) hM2 (by decide) (by decide) (by decide);rw[c5] at hcm;go_fit hcm;rintro e x3 ⟨rfl,hb3⟩;have hB:=ae hB hb3)
     |(go_at_call 14;have hoo:=uB (HB4.out.2.2.1.below hB);rw[ve] at hoo;go_fit hoo;rintro e x4 ⟨rfl,hb4⟩;have hB:=ae hB hb4)
     |(go_at_call 15;have hll:=zj (HB4.out.2.2.1.below hB);rw[HB4.out.2.2.2.1] at hll;go_fit hll;rintro e x5 ⟨rfl,hb5⟩;have hB:=ae hB hb5))
    all_goals
     have HF:Hid (Below w.heap.size w x5):=ae HB4.out.1 hB
     clear hB HB4 HQ4 HB7 HB8 HRS HV hle
     go_wp2
     go_ret
     exact⟨rfl,HF.out⟩
end Go.Proofs.YtfnkomoickanfaaGreatDoor
