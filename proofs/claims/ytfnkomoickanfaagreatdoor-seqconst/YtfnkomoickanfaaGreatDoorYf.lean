/- Own. -/
import Derived.Test.YtfnkomoickanfaaGreatDoorAx
set_option linter.unusedVariables false
set_option linter.unusedSimpArgs false
set_option maxHeartbeats 8000000
set_option maxRecDepth 100000
namespace Go.Proofs.YtfnkomoickanfaaGreatDoor
open Go.RowKit
theorem Dy{w:World}{N M:Nat}{x y:Int}{s t:Bool}{p q:Option Addr}{n m:Nat}(h:RV w N x s p n)(k:RV w M y t q m)(hN:N≤1000)(hM:M≤1000):
  Calls Tryz.prog 55 #[.agg #[.bool s,.slice p n n],.agg #[.bool t,.slice q m m]] w (RVP (N+M+1) (x+y) w):=by
 obtain⟨ds,h1,rfl,h3⟩:=h
 obtain⟨es,k1,rfl,k3⟩:=k
 refine(pM h1 k1 (by omega) (by omega)).mono ?_
 rintro e w' ⟨s',p',n',ds',g1,g2,g3,g4,g5,g6⟩
 exact⟨s',p',n',g1,⟨ds',g2,g3,by omega⟩,g5,g6⟩
theorem pH{w1 w2:World}{a b c d e f g h i j k l:Addr}{u v x y z t r s o p m n:Value}(H:w1.cell? a=some u∧w1.cell? b=some v∧w1.cell? c=some x∧w1.cell? d=some y∧w1.cell? e=some z∧w1.cell? f=some t∧w1.cell? g=some r∧w1.cell? h=some s∧w1.cell? i=some o∧w1.cell? j=some p∧w1.cell? k=some m∧w1.cell? l=some n)(hb:Below w1.heap.size w1 w2):
  w2.cell? a=some u∧w2.cell? b=some v∧w2.cell? c=some x∧w2.cell? d=some y∧w2.cell? e=some z∧w2.cell? f=some t∧w2.cell? g=some r∧w2.cell? h=some s∧w2.cell? i=some o∧w2.cell? j=some p∧w2.cell? k=some m∧w2.cell? l=some n:=by
 obtain⟨h0,h1,h2,h3,h4,h5,h6,h7,h8,h9,h10,h11⟩:=H
 exact⟨cell_later hb h0,cell_later hb h1,cell_later hb h2,cell_later hb h3,cell_later hb h4,cell_later hb h5,cell_later hb h6,cell_later hb h7,cell_later hb h8,cell_later hb h9,cell_later hb h10,cell_later hb h11⟩
theorem Dx{w:World}{Ka Kb:Nat}{sa ta sb tb:Bool}{pa qa pb qb:Option Addr}{na ma nb mb:Nat}{ra rb:Rat}(ha:MQ w Ka sa pa na ta qa ma ra)(hb:MQ w Kb sb pb nb tb qb mb rb)(hKa:1≤Ka)(hKb:1≤Kb)(hK:Ka+Kb≤240):
  Calls Tryz.prog 45 #[.agg #[.bool sa,.slice pa na na,.bool ta,.slice qa ma ma],.agg #[.bool sb,.slice pb nb nb,.bool tb,.slice qb mb mb]] w (MP (ra+rb) (Ka+Kb+1) w):=by
 have hs:Hid (Sz (ra+rb) (Ka+Kb+1)):=CY ha.sz hb.sz
 have hval:Hid (Rat.divInt (ra.num*rb.den+rb.num*ra.den) (ra.den*rb.den)=ra+rb):=CX ra rb
 go_enter Tryz.func45,Tryz.ntmps45
 go_wp2_with fail
 have hA0:Bq ((((w).alloc (.cells #[.bool sa,.slice pa na na,.bool ta,.slice qa ma ma] 45)).alloc (.cells #[.bool sb,.slice pb nb nb,.bool tb,.slice qb mb mb] 45)).alloc (.cells #[.bool false,.slice none 0 0,.bool false,.slice none 0 0] 45)) w.heap.size (.bool sa) (.slice pa na na) (.bool ta) (.slice qa ma ma):=((Bq.new _ _ _ _ _ rfl).alloc _).alloc _
 have hB0:Bq ((((w).alloc (.cells #[.bool sa,.slice pa na na,.bool ta,.slice qa ma ma] 45)).alloc (.cells #[.bool sb,.slice pb nb nb,.bool tb,.slice qb mb mb] 45)).alloc (.cells #[.bool false,.slice none 0 0,.bool false,.slice none 0 0] 45)) (w.heap.size+1) (.bool sb) (.slice pb nb nb) (.bool tb) (.slice qb mb mb):=(Bq.new _ _ _ _ _ (by simp)).alloc _
 have hR0:Bq ((((w).alloc (.cells #[.bool sa,.slice pa na na,.bool ta,.slice qa ma ma] 45)).alloc (.cells #[.bool sb,.slice pb nb nb,.bool tb,.slice qb mb mb] 45)).alloc (.cells #[.bool false,.slice none 0 0,.bool false,.slice none 0 0] 45)) (w.heap.size+1+1) (.bool false) (.slice none 0 0) (.bool false) (.slice none 0 0):=Bq.new _ _ _ _ _ (by simp)
 have hW:Below w.heap.size w ((((w).alloc (.cells #[.bool sa,.slice pa na na,.bool ta,.slice qa ma ma] 45)).alloc (.cells #[.bool sb,.slice pb nb nb,.bool tb,.slice qb mb mb] 45)).alloc (.cells #[.bool false,.slice none 0 0,.bool false,.slice none 0 0] 45)):=(((Below.refl _ _).alloc (Nat.le_refl _) _).alloc (by simp) _).alloc (by simp;omega) _
 generalize (((w).alloc (.cells #[.bool sa,.slice pa na na,.bool ta,.slice qa ma ma] 45)).alloc (.cells #[.bool sb,.slice pb nb nb,.bool tb,.slice qb mb mb] 45)).alloc (.cells #[.bool false,.slice none 0 0,.bool false,.slice none 0 0] 45)=W at *
 have hqa:=ha.below hW
 have hqb:=hb.below hW
 have nA:Hid (w.heap.size≠w.heap.size+1+1):=(by omega:w.heap.size≠w.heap.size+1+1)
 have nB:Hid (w.heap.size+1≠w.heap.size+1+1):=(by omega:w.heap.size+1≠w.heap.size+1+1)
 have a0:=hA0.c0
 have a1:=hA0.c1
 have a2:=hA0.c2
 have a3:=hA0.c3
 have b0:=hB0.c0
 have b1:=hB0.c1
 have b2:=hB0.c2
 have b3:=hB0.c3
 refine(eB hqa.num hqb.den (by omega) (by omega)).mono ?_
 rintro e w1 ⟨s1,p1,n1,rfl,hr1,hF1,hb1⟩
 have hal:=af (o:=.cells #[.bool s1,.slice p1 n1 n1] 43) hb1
 have hA1:=hA0.later hal
 have hB1:=hB0.later hal
 have hR1:=hR0.later hal
 have hW1:=ae hW hal
 have hqa1:=hqa.below hal
 have hqb1:=hqb.below hal
 have nX:Hid (w1.heap.size≠w.heap.size+1+1):=(by have:=hR0.lt;have:=hb1.size;omega:w1.heap.size≠w.heap.size+1+1)
 have hX1:Bx (w1.alloc (.cells #[.bool s1,.slice p1 n1 n1] 43)) w1.heap.size (.bool s1) (.slice p1 n1 n1):=Bx.new _ _ _ rfl
 have hx1:=hr1.alloc (.cells #[.bool s1,.slice p1 n1 n1] 43)
 clear hal hA0 hB0 hR0 hW hqa hqb hr1 hb1 hF1 a0 a1 a2 a3 b0 b1 b2 b3
 have a2:=hA1.c2
 have a3:=hA1.c3
 have b0:=hB1.c0
 have b1:=hB1.c1
 go_wp2_with fail
 generalize w1.alloc (.cells #[.bool s1,.slice p1 n1 n1] 43)=W1 at *
 generalize w1.heap.size=gx at *
 refine(eB hqb1.num hqa1.den (by omega) (by omega)).mono ?_
 rintro e w2 ⟨s2,p2,n2,rfl,hr2,hF2,hb2⟩
 have hal:=af (o:=.cells #[.bool s2,.slice p2 n2 n2] 43) hb2
 have hA2:=hA1.later hal
 have hB2:=hB1.later hal
 have hR2:=hR1.later hal
 have hW2:=ae hW1 hal
 have hqa2:=hqa1.below hal
 have hqb2:=hqb1.below hal
 have hX2:=hX1.later hal
 have hx2:=hx1.below hal
 have nY:Hid (w2.heap.size≠w.heap.size+1+1):=(by have:=hR1.lt;have:=hb2.size;omega:w2.heap.size≠w.heap.size+1+1)
 have hY2:Bx (w2.alloc (.cells #[.bool s2,.slice p2 n2 n2] 43)) w2.heap.size (.bool s2) (.slice p2 n2 n2):=Bx.new _ _ _ rfl
 have hy2:=hr2.alloc (.cells #[.bool s2,.slice p2 n2 n2] 43)
 clear hal hA1 hB1 hR1 hW1 hqa1 hqb1 hX1 hx1 hr2 hb2 hF2 a2 a3 b0 b1
 go_upto_region 2 with fail
 generalize w2.alloc (.cells #[.bool s2,.slice p2 n2 n2] 43)=W2 at *
 generalize w2.heap.size=gy at *
 have a0:=hA2.c0
 have a1:=hA2.c1
 have a2:=hA2.c2
 have a3:=hA2.c3
 have b0:=hB2.c0
 have b1:=hB2.c1
 have b2:=hB2.c2
 have b3:=hB2.c3
 have x0:=hX2.c0
 have x1:=hX2.c1
 have y0:=hY2.c0
 have y1:=hY2.c1
 go_region_held3 (fun w'=>w'.cell? ⟨w.heap.size,0,none⟩=some (.bool sa)∧w'.cell? ⟨w.heap.size,1,none⟩=some (.slice pa na na)∧w'.cell? ⟨w.heap.size,2,none⟩=some (.bool ta)∧w'.cell? ⟨w.heap.size,3,none⟩=some (.slice qa ma ma)∧w'.cell? ⟨w.heap.size+1,0,none⟩=some (.bool sb)∧w'.cell? ⟨w.heap.size+1,1,none⟩=some (.slice pb nb nb)∧w'.cell? ⟨w.heap.size+1,2,none⟩=some (.bool tb)∧w'.cell? ⟨w.heap.size+1,3,none⟩=some (.slice qb mb mb)∧w'.cell? ⟨gx,0,none⟩=some (.bool s1)∧w'.cell? ⟨gx,1,none⟩=some (.slice p1 n1 n1)∧w'.cell? ⟨gy,0,none⟩=some (.bool s2)∧w'.cell? ⟨gy,1,none⟩=some (.slice p2 n2 n2)) (first|with_reducible exact⟨a0,a1,a2,a3,b0,b1,b2,b3,x0,x1,y0,y1⟩|with_reducible exact pH ⟨a0,a1,a2,a3,b0,b1,b2,b3,x0,x1,y0,y1⟩ hV3|with_reducible exact pH ⟨a0,a1,a2,a3,b0,b1,b2,b3,x0,x1,y0,y1⟩ hV4|with_reducible exact pH ⟨a0,a1,a2,a3,b0,b1,b2,b3,x0,x1,y0,y1⟩ hV5|with_reducible exact BU ⟨a0,a1,a2,a3,b0,b1,b2,b3,x0,x1,y0,y1⟩ hV5 nA nB nX nY|(simp[go_sem, *];done))
  (first
   |(go_at_call 55;refine(Dy hx2.drew hy2.drew (by omega) (by omega)).mono ?_;rintro e v3 ⟨s3,p3,n3,rfl,hr3,hF3,hv3⟩;have hV3:=aC hv3)
   |(go_at_call 43;refine(eB (hqa2.den.below hV3) (hqb2.den.below hV3) (by omega) (by omega)).mono ?_;rintro e v4 ⟨s4,p4,n4,rfl,hr4,hF4,hv4⟩;have hV4:=ae hV3 hv4)
   |(go_at_call 49;refine(nL (K:=Ka+Kb+1) (hr3.below hv4) hr4 (by omega) (by omega) (by rw[hval.out];exact hs.out)).mono ?_;rintro e v5 ⟨s5,p5,n5,t5,q5,m5,rfl,hm,hF5,hF5',hv5⟩;have hV5:=ae hV4 hv5;rw[hval.out] at hm;obtain⟨r0,r1,r2,r3,f0,f1,f2,f3⟩:=hR2.later hV5))
 clear a0 a1 a2 a3 b0 b1 b2 b3 x0 x1 y0 y1
 go_wp2
 refine bodyPost_ret (v:=.agg #[.bool s5,.slice p5 n5 n5,.bool t5,.slice q5 m5 m5]) (by simp[results,Tryz.results45,go_sem,r0,r1,r2,r3]) rfl ?_
 have sV:=hV4.size
 exact lg hW2 (by omega) hR2.lt hV5 hm (fun a ha=>Nat.le_trans sV (hF5 a ha)) (fun a ha=>Nat.le_trans sV (hF5' a ha))
theorem Bp(z:Int)(w:World)(h0:-9223372036854775808≤z)(h1:z≤9223372036854775807):Calls Tryz.prog 21 #[.int .i64 z] w (RVP 4 z w):=(eg z w h0 h1).mono fun e w' h=>RVP.of h
theorem C7{w1 w2:World}{a g:Nat}{a0 a1 u v x y:Value}(k:w1.cell? ⟨a,0,none⟩=some a0∧w1.cell? ⟨a,1,none⟩=some a1)(hb:Below w1.heap.size w1 w2)(na:Hid (a≠g)):
  ((((w2.setCell ⟨g,0,none⟩ u).setCell ⟨g,1,none⟩ v).setCell ⟨g,2,none⟩ x).setCell ⟨g,3,none⟩ y).cell? ⟨a,0,none⟩=some a0∧((((w2.setCell ⟨g,0,none⟩ u).setCell ⟨g,1,none⟩ v).setCell ⟨g,2,none⟩ x).setCell ⟨g,3,none⟩ y).cell? ⟨a,1,none⟩=some a1:=
 ⟨aX (cell_later hb k.1) na,aX (cell_later hb k.2) na⟩
def IP(z:Int)(K:Nat)(s:Bool)(p:Option Addr)(n:Nat)(w:World)(e:Ending)(w':World):Prop:=
 ∃t q m,e=.returned (.agg #[.bool s,.slice p n n,.bool t,.slice q m m])∧MQ w' K s p n t q m (z:Rat)∧az w.heap.size q∧Below w.heap.size w w'
theorem s_{w:World}{K:Nat}{z:Int}{s:Bool}{p:Option Addr}{n:Nat}(h:RV w (2*K) z s p n)(hK:2≤K):
  Calls Tryz.prog 19 #[.agg #[.bool s,.slice p n n]] w (IP z K s p n w):=by
 have o1:Hid (0<n→Off (w.heap.size+1) p):=h.off (by omega)
 go_enter Tryz.func19,Tryz.ntmps19
 go_wp2_with fail
 have hA0:Bx ((w.alloc (.cells #[.bool s,.slice p n n] 43)).alloc (.cells #[.bool false,.slice none 0 0,.bool false,.slice none 0 0] 45)) w.heap.size (.bool s) (.slice p n n):=(Bx.new _ _ _ rfl).alloc _
 have hR0:Bq ((w.alloc (.cells #[.bool s,.slice p n n] 43)).alloc (.cells #[.bool false,.slice none 0 0,.bool false,.slice none 0 0] 45)) (w.heap.size+1) (.bool false) (.slice none 0 0) (.bool false) (.slice none 0 0):=Bq.new _ _ _ _ _ (by simp)
 have hW:Below w.heap.size w ((w.alloc (.cells #[.bool s,.slice p n n] 43)).alloc (.cells #[.bool false,.slice none 0 0,.bool false,.slice none 0 0] 45)):=((Below.refl _ _).alloc (Nat.le_refl _) _).alloc (by simp) _
 generalize (w.alloc (.cells #[.bool s,.slice p n n] 43)).alloc (.cells #[.bool false,.slice none 0 0,.bool false,.slice none 0 0] 45)=W at *
 have k:=h.below hW
 have nA:Hid (w.heap.size≠w.heap.size+1):=(by omega:w.heap.size≠w.heap.size+1)
 have a0:=hA0.c0
 have a1:=hA0.c1
 go_region_held3 (fun w'=>w'.cell? ⟨w.heap.size,0,none⟩=some (.bool s)∧w'.cell? ⟨w.heap.size,1,none⟩=some (.slice p n n)) (first|with_reducible exact⟨a0,a1⟩|with_reducible exact dO ⟨a0,a1⟩ hV1|with_reducible exact C7 ⟨a0,a1⟩ hV1 nA|(simp[go_sem, *];done))
  (first
   |(go_at_call 21;refine(Bp 1 _ (by decide) (by decide)).mono ?_;rintro e v1 ⟨s1,p1,n1,rfl,hr1,hF1,hv1⟩;have hV1:=aC hv1;obtain⟨r0,r1,r2,r3,f0,f1,f2,f3⟩:=hR0.later hV1))
 clear a0 a1
 go_wp2
 have sR:=hR0.lt
 refine bodyPost_ret (v:=.agg #[.bool s,.slice p n n,.bool s1,.slice p1 n1 n1]) (by simp[results,Tryz.results19,go_sem,r0,r1,r2,r3]) rfl ⟨s1,p1,n1,rfl,⟨?_,?_⟩,fun a ha=>Nat.le_trans hW.size (hF1 a ha),?_⟩
 ·exact(k.below hV1).bq o1.out _ _ _ _
 ·exact(hr1.up (by omega)).bq (fun _=>aT hF1 sR) _ _ _ _
 ·exact cL (ae hW hV1) (by omega) _ _ _ _
theorem D5(z:Int)(w:World)(h0:-9223372036854775808≤z)(h1:z≤9223372036854775807):
  Calls Tryz.prog 44 #[.int .i64 z] w (MP (z:Rat) 2 w):=by
 go_enter Tryz.func44,Tryz.ntmps44
 go_wp2_with fail
 have hR0:Bq (w.alloc (.cells #[.bool false,.slice none 0 0,.bool false,.slice none 0 0] 45)) w.heap.size (.bool false) (.slice none 0 0) (.bool false) (.slice none 0 0):=Bq.new _ _ _ _ _ rfl
 have hW:Below w.heap.size w (w.alloc (.cells #[.bool false,.slice none 0 0,.bool false,.slice none 0 0] 45)):=(Below.refl _ _).alloc (Nat.le_refl _) _
 generalize w.alloc (.cells #[.bool false,.slice none 0 0,.bool false,.slice none 0 0] 45)=W at *
 refine(Bp z _ h0 h1).mono ?_
 rintro e w1 ⟨s1,p1,n1,rfl,hr1,hF1,hb1⟩
 go_wp2_with fail
 refine(s_ (K:=2) hr1 (by decide)).mono ?_
 rintro e w2 ⟨t2,q2,m2,rfl,hm2,hF2,hb2⟩
 have hV:=ae hb1 hb2
 obtain⟨r0,r1,r2,r3,f0,f1,f2,f3⟩:=hR0.later hV
 have s1':=hb1.size
 go_wp2
 refine bodyPost_ret (v:=.agg #[.bool s1,.slice p1 n1 n1,.bool t2,.slice q2 m2 m2]) (by simp[results,Tryz.results44,go_sem,r0,r1,r2,r3]) rfl ?_
 exact lg hW (by omega) hR0.lt hV hm2 hF1 (fun a ha=>Nat.le_trans s1' (hF2 a ha))
theorem Du(a b:Rat):Rat.divInt (a.num*b.den) (a.den*b.num)=a/b:=by
 rcases Classical.em (b=0) with h|h
 ·subst h
  rw[Rat.div_def,Rat.inv_zero,Rat.mul_zero]
  simp
 ·have:=Rat.divInt_mul_divInt a.num (b.den:Int) (d₁:=a.den) (d₂:=b.num)
  rw[←this,Rat.num_divInt_den,Rat.div_def]
  congr 1
  rw[←Rat.inv_divInt,Rat.num_divInt_den]
theorem yX{w:World}{Ka Kb:Nat}{sa ta sb tb:Bool}{pa qa pb qb:Option Addr}{na ma nb mb:Nat}{ra rb:Rat}(ha:MQ w Ka sa pa na ta qa ma ra)(hb:MQ w Kb sb pb nb tb qb mb rb)(hKa:1≤Ka)(hKb:1≤Kb)(hK:Ka+Kb≤240):
  Calls Tryz.prog 48 #[.agg #[.bool sa,.slice pa na na,.bool ta,.slice qa ma ma],.agg #[.bool sb,.slice pb nb nb,.bool tb,.slice qb mb mb]] w (MP (ra/rb) (Ka+Kb) w):=by
 have hs:Hid (Sz (ra/rb) (Ka+Kb)):=Dw ha.sz hb.sz hKa
 have hval:Hid (Rat.divInt (ra.num*rb.den) (ra.den*rb.num)=ra/rb):=Du ra rb
 have la:=ha.num.le
 go_enter Tryz.func48,Tryz.ntmps48
 go_wp2_with fail
 have hA0:Bq ((((w).alloc (.cells #[.bool sa,.slice pa na na,.bool ta,.slice qa ma ma] 45)).alloc (.cells #[.bool sb,.slice pb nb nb,.bool tb,.slice qb mb mb] 45)).alloc (.cells #[.bool false,.slice none 0 0,.bool false,.slice none 0 0] 45)) w.heap.size (.bool sa) (.slice pa na na) (.bool ta) (.slice qa ma ma):=((Bq.new _ _ _ _ _ rfl).alloc _).alloc _
 have hB0:Bq ((((w).alloc (.cells #[.bool sa,.slice pa na na,.bool ta,.slice qa ma ma] 45)).alloc (.cells #[.bool sb,.slice pb nb nb,.bool tb,.slice qb mb mb] 45)).alloc (.cells #[.bool false,.slice none 0 0,.bool false,.slice none 0 0] 45)) (w.heap.size+1) (.bool sb) (.slice pb nb nb) (.bool tb) (.slice qb mb mb):=(Bq.new _ _ _ _ _ (by simp)).alloc _
 have hR0:Bq ((((w).alloc (.cells #[.bool sa,.slice pa na na,.bool ta,.slice qa ma ma] 45)).alloc (.cells #[.bool sb,.slice pb nb nb,.bool tb,.slice qb mb mb] 45)).alloc (.cells #[.bool false,.slice none 0 0,.bool false,.slice none 0 0] 45)) (w.heap.size+1+1) (.bool false) (.slice none 0 0) (.bool false) (.slice none 0 0):=Bq.new _ _ _ _ _ (by simp)
 have hW:Below w.heap.size w ((((w).alloc (.cells #[.bool sa,.slice pa na na,.bool ta,.slice qa ma ma] 45)).alloc (.cells #[.bool sb,.slice pb nb nb,.bool tb,.slice qb mb mb] 45)).alloc (.cells #[.bool false,.slice none 0 0,.bool false,.slice none 0 0] 45)):=(((Below.refl _ _).alloc (Nat.le_refl _) _).alloc (by simp) _).alloc (by simp;omega) _
 generalize (((w).alloc (.cells #[.bool sa,.slice pa na na,.bool ta,.slice qa ma ma] 45)).alloc (.cells #[.bool sb,.slice pb nb nb,.bool tb,.slice qb mb mb] 45)).alloc (.cells #[.bool false,.slice none 0 0,.bool false,.slice none 0 0] 45)=W at *
 have hqa:=ha.below hW
 have hqb:=hb.below hW
 have nA:Hid (w.heap.size≠w.heap.size+1+1):=(by omega:w.heap.size≠w.heap.size+1+1)
 have nB:Hid (w.heap.size+1≠w.heap.size+1+1):=(by omega:w.heap.size+1≠w.heap.size+1+1)
 have a0:=hA0.c0
 have a1:=hA0.c1
 have a2:=hA0.c2
 have a3:=hA0.c3
 have b0:=hB0.c0
 have b1:=hB0.c1
 have b2:=hB0.c2
 have b3:=hB0.c3
 go_region_held3 (fun w'=>w'.cell? ⟨w.heap.size,0,none⟩=some (.bool sa)∧w'.cell? ⟨w.heap.size,1,none⟩=some (.slice pa na na)∧w'.cell? ⟨w.heap.size,2,none⟩=some (.bool ta)∧w'.cell? ⟨w.heap.size,3,none⟩=some (.slice qa ma ma)∧w'.cell? ⟨w.heap.size+1,0,none⟩=some (.bool sb)∧w'.cell? ⟨w.heap.size+1,1,none⟩=some (.slice pb nb nb)∧w'.cell? ⟨w.heap.size+1,2,none⟩=some (.bool tb)∧w'.cell? ⟨w.heap.size+1,3,none⟩=some (.slice qb mb mb)) (first|with_reducible exact⟨a0,a1,a2,a3,b0,b1,b2,b3⟩|with_reducible exact gU ⟨a0,a1,a2,a3,b0,b1,b2,b3⟩ hV1|with_reducible exact gU ⟨a0,a1,a2,a3,b0,b1,b2,b3⟩ hV2|with_reducible exact gU ⟨a0,a1,a2,a3,b0,b1,b2,b3⟩ hV3|with_reducible exact sC ⟨a0,a1,a2,a3,b0,b1,b2,b3⟩ hV3 nA nB|(simp[go_sem, *];done))
  (first
   |(go_at_call_of 43 (Value.agg #[.bool sa,.slice pa na na]);go_at_call_of 43 (Value.agg #[.bool tb,.slice qb mb mb]);refine(eB hqa.num.drew hqb.den.drew (by omega) (by omega)).mono ?_;rintro e v1 ⟨s1,p1,n1,rfl,hr1,hF1,hv1⟩;have hV1:=aC hv1)
   |(go_at_call_of 43 (Value.agg #[.bool ta,.slice qa ma ma]);go_at_call_of 43 (Value.agg #[.bool sb,.slice pb nb nb]);refine(eB (hqa.den.below hV1) (hqb.num.below hV1) (by omega) (by omega)).mono ?_;rintro e v2 ⟨s2,p2,n2,rfl,hr2,hF2,hv2⟩;have hV2:=ae hV1 hv2)
   |(go_at_call 49;refine(nL (K:=Ka+Kb) (hr1.below hv2) hr2 (by omega) (by omega) (by rw[hval.out];exact hs.out)).mono ?_;rintro e v3 ⟨s3,p3,n3,t3,q3,m3,rfl,hm,hF3,hF3',hv3⟩;have hV3:=ae hV2 hv3;rw[hval.out] at hm;obtain⟨r0,r1,r2,r3,f0,f1,f2,f3⟩:=hR0.later hV3))
 clear a0 a1 a2 a3 b0 b1 b2 b3
 go_wp2
 refine bodyPost_ret (v:=.agg #[.bool s3,.slice p3 n3 n3,.bool t3,.slice q3 m3 m3]) (by simp[results,Tryz.results48,go_sem,r0,r1,r2,r3]) rfl ?_
 have sV:=hV2.size
 exact lg hW (by omega) hR0.lt hV3 hm (fun a ha=>Nat.le_trans sV (hF3 a ha)) (fun a ha=>Nat.le_trans sV (hF3' a ha))
structure An where
 is:Value→World→Prop
 later:∀{v:Value} {w w':World},is v w→Below w.heap.size w w'→is v w'
instance:Inhabited An:=⟨⟨fun _ _=>True,fun _ _=>trivial⟩⟩
theorem lD(listed:Array Bool)(vals:Nat→Value)(k s:Nat)(hk:listed.getD k false=false):∀(l:List (Nat×Nat)) (t:Array Value),(l.map Prod.snd).Nodup→(k,s)∈l→(lay listed vals l t).getD s undef=t.getD s undef
 | [],t,_,h=>by cases h
 |(j,e)::l,t,hn,h=>by
  simp only[List.map_cons,List.nodup_cons] at hn
  rw[lay]
  rcases List.mem_cons.1 h with h1|h1
  ·cases h1
   rw[hk,if_neg (by decide),jc listed vals s l _ hn.1]
  ·have hne:e≠s:=fun e'=>hn.1 (by rw[e'];exact List.mem_map.2 ⟨(k,s),h1,rfl⟩)
   rw[lD listed vals k s hk l _ hn.2 h1]
   split
   ·simp[Array.getElem?_setIfInBounds,hne]
   ·rfl
def waits(ops:Array Oper)(k i:Nat):Bool:=match ops[k]? with
 |some o=>o.after.toList.any fun e=>e.on==i&&Region.binds .any e
 |none=>false
theorem kQ{ops:Array Oper}{k i:Nat}(h:waits ops k i=true):∃o,ops[k]?=some o∧∃e∈o.after,e.on=i∧Region.binds .any e=true:=by
 unfold waits at h
 cases ho:ops[k]? with
 |none=>simp[ho] at h
 |some o=>
  simp only[ho] at h
  obtain⟨e,he,h2⟩:=List.any_eq_true.1 h
  simp only[Bool.and_eq_true,beq_iff_eq] at h2
  exact⟨o,rfl,e,by simpa using he,h2.1,h2.2⟩
def jL(ops:Array Oper)(N:Nat):Bool:=decide (ops.size=N)||(decide (ops.size=N+1)&&(match ops[N]? with|some o=>o.guard.isNone|none=>false)&&(List.range N).all fun j=>waits ops N j)
def o5(S:Nat→Oper→Prop)(N:Nat):Nat→List Oper→Prop
 |_,[]=>True
 |i,o::l=>(i<N→S i o)∧o5 S N (i+1) l
theorem nS{S:Nat→Oper→Prop}{N:Nat}:∀(l:List Oper) (k:Nat),o5 S N k l→∀i o,l[i]?=some o→k+i<N→S (k+i) o
 | [],_,_,i,o,h,_=>by simp at h
 |x::l,k,h,0,o,ho,hN=>by
  simp only[List.getElem?_cons_zero,Option.some.injEq] at ho
  subst ho
  exact h.1 hN
 |x::l,k,h,i+1,o,ho,hN=>by
  have:=nS l (k+1) h.2 i o (by simpa using ho) (by omega)
  rwa [show k+1+i=k+(i+1) by omega] at this
def ri(P:Program)(Q:Exit→Act→World→Prop)(ops:Array Oper)(N:Nat)(a:Act)(w:World):Prop:=match ops[N]? with
 |none=>Q .normal a w
 |some o=>o.wp P a w (fun a' w'=>Q .normal a' w') Q
structure Ends(P:Program)(Q:Exit→Act→World→Prop)(ops:Array Oper)(N:Nat)(a:Act)(w:World):Prop where
 out:ri P Q ops N a w
def nR(ops:Array Oper):Bool:=(List.range ops.size).all fun i=>((ops[i]?).map (·.after.all fun e=>!Region.binds .any e||decide (e.on<i))).getD true
theorem mH{ops:Array Oper}(ha:nR ops=true){listed:Array Bool}(hr:Region.ready .any ops listed=[]):∀j,j<ops.size→listed.getD j true=true:=by
 intro j
 induction j using Nat.strongRecOn with
 |_ j ih=>
  intro hj
  cases hc:listed.getD j true with
  |true=>rfl
  |false=>
   exfalso
   have ho:ops[j]?=some ops[j]:=Array.getElem?_eq_getElem hj
   have hsz:j<listed.size:=by
    rcases Nat.lt_or_ge j listed.size with h'|h'
    ·exact h'
    ·simp[Array.getElem?_eq_none h'] at hc
   have:j∈Region.ready .any ops listed:=by
    rw[mem_ready]
    refine⟨hc,ops[j],ho,fun e he hbn=>?_⟩
    have h1:=List.all_eq_true.1 ha j (List.mem_range.2 hj)
    rw[ho] at h1
    simp only[Option.map_some,Option.getD_some,Array.all_eq_true_iff_forall_mem,Bool.or_eq_true,Bool.not_eq_true',decide_eq_true_eq] at h1
    have h2:e.on<j:=by
     rcases h1 e he with h|h
     ·rw[hbn] at h;cases h
     ·exact h
    have h3:=ih e.on h2 (by omega)
    have h4:e.on<listed.size:=by omega
    simpa [h4] using h3
   rw[hr] at this
   cases this
theorem xB{P:Program}{ops:Array Oper}{Q:Exit→Act→World→Prop}(I:Array Bool→Act→World→Prop)(ha:nR ops=true)
  (hend:∀listed a w,I listed a w→(∀j,j<ops.size→listed.getD j true=true)→Q .normal a w)
  (hstep:∀listed a w,I listed a w→∀i o,ops[i]?=some o→listed.getD i true=false→(∀e∈o.after,Region.binds .any e=true→listed.getD e.on false=true)→wpOp P ops Q i (fun a' w'=>I (listed.setIfInBounds i true) a' w') a w):
  ∀(fuel:Nat) (listed:Array Bool) (a:Act) (w:World),listed.toList.count false≤fuel→I listed a w→wpAny P .any ops Q fuel listed a w:=by
 intro fuel
 induction fuel with
 |zero=>
  intro listed a w hc hI
  have hr:Region.ready .any ops listed=[]:=by
   rw[List.eq_nil_iff_forall_not_mem]
   intro j hj
   have h1:=nU (mem_ready.1 hj).1
   omega
  exact⟨hr,hend _ _ _ hI (mH ha hr)⟩
 |succ fuel ih=>
  intro listed a w hc hI
  refine⟨fun hr=>hend _ _ _ hI (mH ha hr),fun i hi=>?_⟩
  obtain⟨h0,o,ho,hd⟩:=mem_ready.1 hi
  exact wpOp_mono (fun a' w' h=>ih _ _ _ (by have:=nU h0;omega) h) (hstep _ _ _ hI i o ho h0 hd)
theorem uk{P:Program}{ops:Array Oper}{Q:Exit→Act→World→Prop}{id:Nat}{a:Act}{w:World}(hm:P.follows .mixedOrders=true)(I:Array Bool→Act→World→Prop)(ha:nR ops=true)
  (hend:∀listed a w,I listed a w→(∀j,j<ops.size→listed.getD j true=true)→Q .normal a w)
  (hstep:∀listed a w,I listed a w→∀i o,ops[i]?=some o→listed.getD i true=false→(∀e∈o.after,Region.binds .any e=true→listed.getD e.on false=true)→wpOp P ops Q i (fun a' w'=>I (listed.setIfInBounds i true) a' w') a w)
  (h:I (Array.replicate ops.size false) a {w with drawn:=w.drawn+1}):(Code.region id ops true).wp P Q a w:=
 wp_region_any hm (xB I ha hend hstep _ _ _ _ (by simp) h)
theorem xZ{P:Program}{Q:Exit→Act→World→Prop}{ops:Array Oper}{N:Nat}{a:Act}{w:World}{o:Oper}(h:ops[N]?=some o)(k:o.wp P a w (fun a' w'=>Q .normal a' w') Q):Ends P Q ops N a w:=by
 refine⟨?_⟩
 rw[ri,h]
 exact k
section
variable {P:Program} {Q:Exit→Act→World→Prop} {W:World} {ops:Array Oper} {t0:Array Value} {dl:List (Nat×Nat)} {ans:List An} {i:Nat} {o:Oper}
end
end Go.Proofs.YtfnkomoickanfaaGreatDoor
