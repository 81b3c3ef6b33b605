/- Own. -/
import Derived.Test.YtfnkomoickanfaaGreatDoorCy
set_option linter.unusedVariables false
set_option linter.unusedSimpArgs false
set_option maxHeartbeats 8000000
set_option maxRecDepth 100000
namespace Go.Proofs.YtfnkomoickanfaaGreatDoor
open Go.RowKit
section
variable {w w':World} {N M K:Nat} {z x y:Int} {s t:Bool} {p q:Option Addr} {n m:Nat}
theorem eB(h:RV w N x s p n)(k:RV w M y t q m)(hN:N≤1000)(hM:M≤1000):
  Calls Tryz.prog 43 #[.agg #[.bool s,.slice p n n],.agg #[.bool t,.slice q m m]] w (RVP (N+M+1) (x*y) w):=by
 obtain⟨ds,h1,rfl,h3⟩:=h
 obtain⟨es,k1,rfl,k3⟩:=k
 refine(vA h1 k1 (by omega) (by omega)).mono ?_
 rintro e w' ⟨s',p',n',ds',g1,g2,g3,g4,g5,g6⟩
 exact⟨s',p',n',g1,⟨ds',g2,g3,by omega⟩,g5,g6⟩
end
theorem tc{w:World}{N M:Nat}{x y:Int}{e f:Ent}(h:RE w N x e)(k:RE w M y f)(hN:N≤1000)(hM:M≤1000):
  Calls Tryz.prog 43 #[.agg #[.bool e.s,.slice e.p e.n e.c],.agg #[.bool f.s,.slice f.p f.n f.c]] w fun r w'=>∃u:Ent,r=.returned (.agg #[.bool u.s,.slice u.p u.n u.c])∧RE w' (N+M+1) (x*y) u∧az w.heap.size u.p∧Below w.heap.size w w':=by
 obtain⟨h1,h4⟩:=h
 obtain⟨k1,k4⟩:=k
 rw[h4,k4]
 refine(eB h1 k1 hN hM).mono ?_
 rintro r w' ⟨s',p',n',g1,g2,g3,g4⟩
 exact⟨⟨s',p',n',n'⟩,g1,⟨g2,rfl⟩,g3,g4⟩
theorem Cq{w:World}{N:Nat}{p:Option Addr}{n nc:Nat}{es:List Ent}{zs:List Int}(h:PR w N p n nc es zs)(i:Nat)(hi:i<n)(hn:n≤1000000):
  Calls Tryz.prog 191 #[.slice p n nc,.int .i64 i] w fun r w'=>r=.returned (.agg #[.bool (ge es i).s,.slice (ge es i).p (ge es i).n (ge es i).c])∧Below w.heap.size w w':=by
 have hel:=h.el
 have hal:=af (o:=.cells #[.bool false,.slice none 0 0] 43) (Below.refl w.heap.size w)
 have hX:Bx (w.alloc (.cells #[.bool false,.slice none 0 0] 43)) w.heap.size (.bool false) (.slice none 0 0):=Bx.new _ _ _ rfl
 obtain⟨b,o,hp,hc⟩:=(h.below hal).pl (by omega)
 subst hp
 obtain⟨c0,c1⟩:=hc i (by omega)
 have i1:(i:Int)<(n:Int):=by omega
 have i2:¬(i:Int)<0:=by omega
 have i3:¬(n:Int)≤(i:Int):=by omega
 obtain⟨r0,r1,f0,f1⟩:=id hX
 clear hc h
 go_enter Tryz.func191,Tryz.ntmps191
 go_upto_region 1 with fail
 generalize w.alloc (.cells #[.bool false,.slice none 0 0] 43)=W at *
 go_wp2
 refine bodyPost_ret (v:=.agg #[.bool (ge es i).s,.slice (ge es i).p (ge es i).n (ge es i).c]) (by simp[results,Tryz.results191,go_sem,r0,r1]) rfl ⟨rfl,?_⟩
 exact c8 hal (Nat.le_refl _) _ _
theorem wW(a:Int)(w:World)(h0:0≤a)(h1:a≤9223372036854775807):
  Calls Tryz.prog 21 #[.int .i64 a] w fun r w'=>∃u:Ent,r=.returned (.agg #[.bool u.s,.slice u.p u.n u.c])∧RE w' 4 a u∧az w.heap.size u.p∧Below w.heap.size w w':=by
 refine(eg a w (by omega) h1).mono ?_
 rintro e w1 ⟨s1,p1,n1,d1,rfl,hR1,hv1,hn1,hF1,hb1⟩
 exact⟨⟨s1,p1,n1,n1⟩,rfl,⟨⟨d1,hR1,hv1,hn1⟩,rfl⟩,hF1,hb1⟩
def DAns(N:Nat)(v:Int)(w:World)(e:Ending)(w':World):Prop:=
 ∃q k cap D,e=.returned (.slice q k cap)∧D.length=k∧k≤cap∧cap≤maxLen∧Rd w' q .i64 D∧U16 D∧vd D=v∧k≤N∧az w.heap.size q∧Below w.heap.size w w'
theorem AP(p q:Option Addr)(n nc m mc:Nat)(xs ys:List Int)(w:World)(hn:xs.length=n)(hm:ys.length=m)(hnb:n≤1000000)(hmb:m≤1000000)
  (hX:Rd w p .i64 xs) (hXu:U16 xs) (hY:Rd w q .i64 ys) (hYu:U16 ys):
  Calls Tryz.prog 93 #[.slice p n nc,.slice q m mc] w (DAns (n+m+1) (vd xs+vd ys) w):=by
 obtain⟨i0,hi,hzz⟩:=Option.map_eq_some_iff.1 fM
 simp only[Prod.mk.injEq] at hzz
 obtain⟨hz0,hz1,hz2⟩:=hzz
 have HI:Hid (Tryz.prog.info? 3=some i0∧i0.zero=some (.int .i64 0)∧i0.size=1∧i0.bytes=8):=⟨hi,hz0,hz1,hz2⟩
 clear hi hz0 hz1 hz2
 have HN:Hid (xs.length=n∧ys.length=m):=⟨hn,hm⟩
 clear hn hm
 go_enter Tryz.func93,Tryz.ntmps93
 go_wp2
 go_loopw [5,6,7] (fun dv cv iv wr=>∃(k:Nat) (c:Int) (ds:List Int),k≤n+m+1∧iv=.int .i64 k∧cv=.int .i64 c∧0≤c∧c≤1∧(k≤n∨k≤m∨c=0)∧ds.length=k∧Hid (vd ds+pd k*c=vd (xs.take k)+vd (ys.take k)∧U16 ds∧wr.ownsRow w.heap.size 3 1 dv k (ds.map (Value.int .i64))∧Below w.heap.size w wr)) (fun _ _ iv _=>n+m+2-(intOf iv).toNat)
 case atStart=>exact⟨0,0,[],Nat.zero_le _,rfl,rfl,by decide,by decide,.inl (Nat.zero_le _),rfl,by simp[vd],im,World.ownsRow_nil _ _ _ _,Below.refl _ _⟩
 case round=>
  obtain⟨k,c,ds,hk,rfl,rfl,hc0,hc1,hkc,hkl,H⟩:=hrel
  have hBr:=H.out.2.2.2
  have HV:Hid (vd ds+pd k*c=vd (xs.take k)+vd (ys.take k)∧U16 ds):=⟨H.out.1,H.out.2.1⟩
  have HO:Hid (wr.ownsRow w.heap.size 3 1 u5 k (ds.map (Value.int .i64))):=H.out.2.2.1
  have HL:Hid (ds.length=k):=hkl
  clear H hkl
  obtain⟨x0,x1⟩:=hXu k
  obtain⟨y0,y1⟩:=hYu k
  obtain⟨hi,hz0,hz1,hz2⟩:=HI.out
  by_cases h1:k<n
  ·have h1I:(k:Int)<(n:Int):=by omega
   obtain⟨b,off,rfl,hcell⟩:=(hX.below hBr) (by have:=HN.out;omega)
   have hck:=hcell k (by have:=HN.out;omega)
   clear hcell
   by_cases h2:k<m
   ·have h2I:(k:Int)<(m:Int):=by omega
    obtain⟨b2,off2,rfl,hcell⟩:=(hY.below hBr) (by have:=HN.out;omega)
    have hck2:=hcell k (by have:=HN.out;omega)
    clear hcell
    have q1:(c+gx xs k+gx ys k).tmod 65536=(c+gx xs k+gx ys k)%65536:=Int.tmod_eq_emod_of_nonneg (by omega)
    have q2:(c+gx xs k+gx ys k).tdiv 65536=(c+gx xs k+gx ys k)/65536:=Int.tdiv_eq_ediv_of_nonneg (by omega)
    go_wp2_with (refine wpList_append_lies _ rfl _ _ 41 rfl w.heap.size 3 i0 (.int .i64 0) 1 8 Tryz.underlying41 hi hz0 hz1 hz2 rfl (by decide) u5 k (ds.map (Value.int .i64)) rfl (HO.out.alloc _) ⟨wr.heap.size,0,none⟩ 1 1 [.int .i64 ((c+gx xs k+gx ys k)%65536)] rfl rfl ?_ (fun x hx=>by simp at hx;subst hx;rfl) (by decide) (by unfold maxLen;omega) (by omega) (by have:=hBr.size;simp;omega) _ rfl ?_;exact World.news_of_block (heap_alloc_new wr _);intro g cap w3 hown3 hgrow3 hat3 hlt3;have hB3:Below w.heap.size w w3:=(cY hBr).grown hgrow3 (by have:=hBr.size;simp;omega) (fun q hq=>(HO.out.lt q hq).1))
    refine⟨⟨k+1,(c+gx xs k+gx ys k)/65536,ds++[(c+gx xs k+gx ys k)%65536],by omega,by go_num,by go_num,by omega,by omega,by omega,by have:=HL.out;simp;omega,?_,cg HV.out.2 (cQ (by omega)),?_,hB3⟩,by simp[intOf];omega⟩
    ·have e:=gP (pd k) (c+gx xs k+gx ys k)
     have e0:=HV.out.1
     rw[b8,cJ,bu,HL.out,aB,aB]
     simp only[Int.mul_add] at e ⊢
     omega
    ·rw[List.map_append]
     exact hown3
   ·have h2I:¬(k:Int)<(m:Int):=by omega
    have q1:(c+gx xs k).tmod 65536=(c+gx xs k)%65536:=Int.tmod_eq_emod_of_nonneg (by omega)
    have q2:(c+gx xs k).tdiv 65536=(c+gx xs k)/65536:=Int.tdiv_eq_ediv_of_nonneg (by omega)
    have hy0:Hid (gx ys k=0):=aJ ys m (by have:=HN.out;omega) k (by omega)
    go_wp2_with (refine wpList_append_lies _ rfl _ _ 41 rfl w.heap.size 3 i0 (.int .i64 0) 1 8 Tryz.underlying41 hi hz0 hz1 hz2 rfl (by decide) u5 k (ds.map (Value.int .i64)) rfl (HO.out.alloc _) ⟨wr.heap.size,0,none⟩ 1 1 [.int .i64 ((c+gx xs k)%65536)] rfl rfl ?_ (fun x hx=>by simp at hx;subst hx;rfl) (by decide) (by unfold maxLen;omega) (by omega) (by have:=hBr.size;simp;omega) _ rfl ?_;exact World.news_of_block (heap_alloc_new wr _);intro g cap w3 hown3 hgrow3 hat3 hlt3;have hB3:Below w.heap.size w w3:=(cY hBr).grown hgrow3 (by have:=hBr.size;simp;omega) (fun q hq=>(HO.out.lt q hq).1))
    refine⟨⟨k+1,(c+gx xs k)/65536,ds++[(c+gx xs k)%65536],by omega,by go_num,by go_num,by omega,by omega,by omega,by have:=HL.out;simp;omega,?_,cg HV.out.2 (cQ (by omega)),?_,hB3⟩,by simp[intOf];omega⟩
    ·have e:=gP (pd k) (c+gx xs k)
     have e0:=HV.out.1
     rw[b8,cJ,bu,HL.out,aB,aB]
     rw[hy0.out,Int.mul_zero,Int.add_zero];simp only[Int.mul_add] at e ⊢
     omega
    ·rw[List.map_append]
     exact hown3
  ·have h1I:¬(k:Int)<(n:Int):=by omega
   have hx0:Hid (gx xs k=0):=aJ xs n (by have:=HN.out;omega) k (by omega)
   by_cases h2:k<m
   ·have h2I:(k:Int)<(m:Int):=by omega
    obtain⟨b2,off2,rfl,hcell⟩:=(hY.below hBr) (by have:=HN.out;omega)
    have hck2:=hcell k (by have:=HN.out;omega)
    clear hcell
    have q1:(c+gx ys k).tmod 65536=(c+gx ys k)%65536:=Int.tmod_eq_emod_of_nonneg (by omega)
    have q2:(c+gx ys k).tdiv 65536=(c+gx ys k)/65536:=Int.tdiv_eq_ediv_of_nonneg (by omega)
    go_wp2_with (refine wpList_append_lies _ rfl _ _ 41 rfl w.heap.size 3 i0 (.int .i64 0) 1 8 Tryz.underlying41 hi hz0 hz1 hz2 rfl (by decide) u5 k (ds.map (Value.int .i64)) rfl (HO.out.alloc _) ⟨wr.heap.size,0,none⟩ 1 1 [.int .i64 ((c+gx ys k)%65536)] rfl rfl ?_ (fun x hx=>by simp at hx;subst hx;rfl) (by decide) (by unfold maxLen;omega) (by omega) (by have:=hBr.size;simp;omega) _ rfl ?_;exact World.news_of_block (heap_alloc_new wr _);intro g cap w3 hown3 hgrow3 hat3 hlt3;have hB3:Below w.heap.size w w3:=(cY hBr).grown hgrow3 (by have:=hBr.size;simp;omega) (fun q hq=>(HO.out.lt q hq).1))
    refine⟨⟨k+1,(c+gx ys k)/65536,ds++[(c+gx ys k)%65536],by omega,by go_num,by go_num,by omega,by omega,by omega,by have:=HL.out;simp;omega,?_,cg HV.out.2 (cQ (by omega)),?_,hB3⟩,by simp[intOf];omega⟩
    ·have e:=gP (pd k) (c+gx ys k)
     have e0:=HV.out.1
     rw[b8,cJ,bu,HL.out,aB,aB]
     rw[hx0.out,Int.mul_zero,Int.add_zero];simp only[Int.mul_add] at e ⊢
     omega
    ·rw[List.map_append]
     exact hown3
   ·have h2I:¬(k:Int)<(m:Int):=by omega
    have hy0:Hid (gx ys k=0):=aJ ys m (by have:=HN.out;omega) k (by omega)
    by_cases h3:0<c
    ·obtain rfl:c=1:=by omega
     go_wp2_with (refine wpList_append_lies _ rfl _ _ 41 rfl w.heap.size 3 i0 (.int .i64 0) 1 8 Tryz.underlying41 hi hz0 hz1 hz2 rfl (by decide) u5 k (ds.map (Value.int .i64)) rfl (HO.out.alloc _) ⟨wr.heap.size,0,none⟩ 1 1 [.int .i64 (1)] rfl rfl ?_ (fun x hx=>by simp at hx;subst hx;rfl) (by decide) (by unfold maxLen;omega) (by omega) (by have:=hBr.size;simp;omega) _ rfl ?_;exact World.news_of_block (heap_alloc_new wr _);intro g cap w3 hown3 hgrow3 hat3 hlt3;have hB3:Below w.heap.size w w3:=(cY hBr).grown hgrow3 (by have:=hBr.size;simp;omega) (fun q hq=>(HO.out.lt q hq).1))
     refine⟨⟨k+1,0,ds++[1],by omega,by go_num,rfl,by decide,by decide,.inr (.inr rfl),by have:=HL.out;simp;omega,?_,cg HV.out.2 (cQ (by decide)),?_,hB3⟩,by simp[intOf];omega⟩
     ·have e0:=HV.out.1
      rw[b8,cJ,bu,HL.out,aB,aB,hx0.out,hy0.out]
      omega
     ·rw[List.map_append]
      exact hown3
    ·obtain rfl:c=0:=by omega
     have hform:∃q' cap,u5=.slice q' k cap∧k≤cap∧cap≤maxLen∧Rd wr q' .i64 ds∧az w.heap.size q':=by
      have hown:=HO.out
      rcases hown.2 with ⟨h1,h2⟩|⟨g,cap,cur,h1,hbg,_,h4,h5,_⟩
      ·refine⟨none,0,by rw[h1,h2],by omega,Nat.zero_le _,?_,c9⟩
       have:ds=[]:=List.eq_nil_of_length_eq_zero (by have:=HL.out;omega)
       rw[this];exact Rd.nil
      ·subst h1
       exact⟨_,cap,rfl,h4,h5,fX hown,aL hbg⟩
     obtain⟨q',cap,rfl,hq1,hq2,hq3,hq4⟩:=hform
     go_wp2
     go_ret
     have e0:=HV.out.1
     rw[Int.mul_zero,Int.add_zero,List.take_of_length_le (by have:=HN.out;omega),List.take_of_length_le (by have:=HN.out;omega)] at e0
     exact⟨q',k,cap,ds,rfl,HL.out,hq1,hq2,hq3,HV.out.2,e0,hk,hq4,hBr⟩
theorem tC(p q:Option Addr)(n nc m mc:Nat)(xs ys:List Int)(w:World)(hn:xs.length=n)(hm:ys.length=m)(hnb:n≤1000000)(hmn:m≤n)(hge:vd ys≤vd xs)
  (hX:Rd w p .i64 xs) (hXu:U16 xs) (hY:Rd w q .i64 ys) (hYu:U16 ys):
  Calls Tryz.prog 94 #[.slice p n nc,.slice q m mc] w (DAns n (vd xs-vd ys) w):=by
 obtain⟨i0,hi,hzz⟩:=Option.map_eq_some_iff.1 fM
 simp only[Prod.mk.injEq] at hzz
 obtain⟨hz0,hz1,hz2⟩:=hzz
 have HI:Hid (Tryz.prog.info? 3=some i0∧i0.zero=some (.int .i64 0)∧i0.size=1∧i0.bytes=8):=⟨hi,hz0,hz1,hz2⟩
 clear hi hz0 hz1 hz2
 have HN:Hid (xs.length=n∧ys.length=m):=⟨hn,hm⟩
 clear hn hm
 go_enter Tryz.func94,Tryz.ntmps94
 go_wp2
 go_loopw [5,6,7,8] (fun dv cv iv nv wr=>∃(k:Nat) (c:Int) (ds:List Int),k≤n∧iv=.int .i64 k∧cv=.int .i64 c∧0≤c∧c≤1∧ds.length=k∧Hid (vd ds-pd k*c=vd (xs.take k)-vd (ys.take k)∧U16 ds∧wr.ownsRow w.heap.size 3 1 dv k (ds.map (Value.int .i64))∧Below w.heap.size w wr)) (fun _ _ iv _ _=>n-(intOf iv).toNat)
 case atStart=>exact⟨0,0,[],Nat.zero_le _,rfl,rfl,by decide,by decide,rfl,by simp[vd],im,World.ownsRow_nil _ _ _ _,Below.refl _ _⟩
 case round=>
  obtain⟨k,c,ds,hk,rfl,rfl,hc0,hc1,hkl,H⟩:=hrel
  have hBr:=H.out.2.2.2
  have HV:Hid (vd ds-pd k*c=vd (xs.take k)-vd (ys.take k)∧U16 ds):=⟨H.out.1,H.out.2.1⟩
  have HO:Hid (wr.ownsRow w.heap.size 3 1 u5 k (ds.map (Value.int .i64))):=H.out.2.2.1
  have HL:Hid (ds.length=k):=hkl
  clear H hkl
  obtain⟨x0,x1⟩:=hXu k
  obtain⟨y0,y1⟩:=hYu k
  obtain⟨hi,hz0,hz1,hz2⟩:=HI.out
  by_cases h1:k<n
  ·have h1I:(k:Int)<(n:Int):=by omega
   obtain⟨b,off,rfl,hcell⟩:=(hX.below hBr) (by have:=HN.out;omega)
   have hck:=hcell k (by have:=HN.out;omega)
   clear hcell
   by_cases h2:k<m
   ·have h2I:(k:Int)<(m:Int):=by omega
    obtain⟨b2,off2,rfl,hcell⟩:=(hY.below hBr) (by have:=HN.out;omega)
    have hck2:=hcell k (by have:=HN.out;omega)
    clear hcell
    by_cases h3:gx xs k-c-gx ys k<0
    ·go_wp2_with (refine wpList_append_lies _ rfl _ _ 41 rfl w.heap.size 3 i0 (.int .i64 0) 1 8 Tryz.underlying41 hi hz0 hz1 hz2 rfl (by decide) u5 k (ds.map (Value.int .i64)) rfl (HO.out.alloc _) ⟨wr.heap.size,0,none⟩ 1 1 [.int .i64 (gx xs k-c-gx ys k+65536)] rfl rfl ?_ (fun x hx=>by simp at hx;subst hx;rfl) (by decide) (by unfold maxLen;omega) (by omega) (by have:=hBr.size;simp;omega) _ rfl ?_;exact World.news_of_block (heap_alloc_new wr _);intro g cap w3 hown3 hgrow3 hat3 hlt3;have hB3:Below w.heap.size w w3:=(cY hBr).grown hgrow3 (by have:=hBr.size;simp;omega) (fun q hq=>(HO.out.lt q hq).1))
     refine⟨⟨k+1,1,ds++[gx xs k-c-gx ys k+65536],by omega,by go_num,rfl,by decide,by decide,by have:=HL.out;simp;omega,?_,cg HV.out.2 (cQ (by omega)),?_,hB3⟩,by simp[intOf];omega⟩
     ·have e0:=HV.out.1
      rw[b8,cJ,bu,HL.out,aB,aB]
      simp only[Int.mul_add,Int.mul_sub] at e0 ⊢
      omega
     ·rw[List.map_append]
      exact hown3
    ·go_wp2_with (refine wpList_append_lies _ rfl _ _ 41 rfl w.heap.size 3 i0 (.int .i64 0) 1 8 Tryz.underlying41 hi hz0 hz1 hz2 rfl (by decide) u5 k (ds.map (Value.int .i64)) rfl (HO.out.alloc _) ⟨wr.heap.size,0,none⟩ 1 1 [.int .i64 (gx xs k-c-gx ys k)] rfl rfl ?_ (fun x hx=>by simp at hx;subst hx;rfl) (by decide) (by unfold maxLen;omega) (by omega) (by have:=hBr.size;simp;omega) _ rfl ?_;exact World.news_of_block (heap_alloc_new wr _);intro g cap w3 hown3 hgrow3 hat3 hlt3;have hB3:Below w.heap.size w w3:=(cY hBr).grown hgrow3 (by have:=hBr.size;simp;omega) (fun q hq=>(HO.out.lt q hq).1))
     refine⟨⟨k+1,0,ds++[gx xs k-c-gx ys k],by omega,by go_num,rfl,by decide,by decide,by have:=HL.out;simp;omega,?_,cg HV.out.2 (cQ (by omega)),?_,hB3⟩,by simp[intOf];omega⟩
     ·have e0:=HV.out.1
      rw[b8,cJ,bu,HL.out,aB,aB]
      simp only[Int.mul_add,Int.mul_sub] at e0 ⊢
      omega
     ·rw[List.map_append]
      exact hown3
   ·have h2I:¬(k:Int)<(m:Int):=by omega
    have hy0:Hid (gx ys k=0):=aJ ys m (by have:=HN.out;omega) k (by omega)
    by_cases h3:gx xs k-c<0
    ·go_wp2_with (refine wpList_append_lies _ rfl _ _ 41 rfl w.heap.size 3 i0 (.int .i64 0) 1 8 Tryz.underlying41 hi hz0 hz1 hz2 rfl (by decide) u5 k (ds.map (Value.int .i64)) rfl (HO.out.alloc _) ⟨wr.heap.size,0,none⟩ 1 1 [.int .i64 (gx xs k-c+65536)] rfl rfl ?_ (fun x hx=>by simp at hx;subst hx;rfl) (by decide) (by unfold maxLen;omega) (by omega) (by have:=hBr.size;simp;omega) _ rfl ?_;exact World.news_of_block (heap_alloc_new wr _);intro g cap w3 hown3 hgrow3 hat3 hlt3;have hB3:Below w.heap.size w w3:=(cY hBr).grown hgrow3 (by have:=hBr.size;simp;omega) (fun q hq=>(HO.out.lt q hq).1))
     refine⟨⟨k+1,1,ds++[gx xs k-c+65536],by omega,by go_num,rfl,by decide,by decide,by have:=HL.out;simp;omega,?_,cg HV.out.2 (cQ (by omega)),?_,hB3⟩,by simp[intOf];omega⟩
     ·have e0:=HV.out.1
      rw[b8,cJ,bu,HL.out,aB,aB]
      rw[hy0.out];simp only[Int.mul_add,Int.mul_sub,Int.mul_zero] at e0 ⊢
      omega
     ·rw[List.map_append]
      exact hown3
    ·go_wp2_with (refine wpList_append_lies _ rfl _ _ 41 rfl w.heap.size 3 i0 (.int .i64 0) 1 8 Tryz.underlying41 hi hz0 hz1 hz2 rfl (by decide) u5 k (ds.map (Value.int .i64)) rfl (HO.out.alloc _) ⟨wr.heap.size,0,none⟩ 1 1 [.int .i64 (gx xs k-c)] rfl rfl ?_ (fun x hx=>by simp at hx;subst hx;rfl) (by decide) (by unfold maxLen;omega) (by omega) (by have:=hBr.size;simp;omega) _ rfl ?_;exact World.news_of_block (heap_alloc_new wr _);intro g cap w3 hown3 hgrow3 hat3 hlt3;have hB3:Below w.heap.size w w3:=(cY hBr).grown hgrow3 (by have:=hBr.size;simp;omega) (fun q hq=>(HO.out.lt q hq).1))
     refine⟨⟨k+1,0,ds++[gx xs k-c],by omega,by go_num,rfl,by decide,by decide,by have:=HL.out;simp;omega,?_,cg HV.out.2 (cQ (by omega)),?_,hB3⟩,by simp[intOf];omega⟩
     ·have e0:=HV.out.1
      rw[b8,cJ,bu,HL.out,aB,aB]
      rw[hy0.out];simp only[Int.mul_add,Int.mul_sub,Int.mul_zero] at e0 ⊢
      omega
     ·rw[List.map_append]
      exact hown3
  ·have h1I:¬(k:Int)<(n:Int):=by omega
   obtain rfl:k=n:=by omega
   have hform:∃q' cap,u5=.slice q' k cap∧k≤cap∧cap≤maxLen∧Rd wr q' .i64 ds∧az w.heap.size q':=by
    have hown:=HO.out
    rcases hown.2 with ⟨h1,h2⟩|⟨g,cap,cur,h1,hbg,_,h4,h5,_⟩
    ·refine⟨none,0,by rw[h1,h2],by omega,Nat.zero_le _,?_,c9⟩
     have:ds=[]:=List.eq_nil_of_length_eq_zero (by have:=HL.out;omega)
     rw[this];exact Rd.nil
    ·subst h1
     exact⟨_,cap,rfl,h4,h5,fX hown,aL hbg⟩
   obtain⟨q',cap,rfl,hq1,hq2,hq3,hq4⟩:=hform
   go_wp2
   go_ret
   have e0:=HV.out.1
   rw[List.take_of_length_le (by have:=HN.out;omega),List.take_of_length_le (by have:=HN.out;omega)] at e0
   have hl:=eo HV.out.2
   rw[HL.out] at hl
   have hcz:c=0:=by
    rcases(show c=0∨c=1 by omega) with h|h
    ·exact h
    ·rw[h,Int.mul_one] at e0;omega
   rw[hcz,Int.mul_zero,Int.sub_zero] at e0
   exact⟨q',k,cap,ds,rfl,HL.out,hq1,hq2,hq3,HV.out.2,e0,Nat.le_refl _,hq4,hBr⟩
theorem fW(p q:Option Addr)(n nc m mc:Nat)(xs ys:List Int)(w:World)(hn:xs.length=n)(hm:ys.length=m)(hnb:n≤1000000000)(hmb:m≤1000000000)(tx:ad xs=n)(ty:ad ys=m)
  (hX:Rd w p .i64 xs) (hXu:U16 xs) (hY:Rd w q .i64 ys) (hYu:U16 ys):
  Calls Tryz.prog 80 #[.slice p n nc,.slice q m mc] w fun e w'=>e=.returned (.int .i64 (a_ (vd xs) (vd ys)))∧Below w.heap.size w w':=by
 by_cases hne:n=m
 ·subst hne
  have hb:((n:Int) != (n:Int))=false:=by simp
  go_enter Tryz.func80,Tryz.ntmps80
  go_wp2_with fail
  go_loopw [5] (fun iv wr=>∃k:Nat,k≤n∧iv=.int .i64 ((k:Int)-1)∧Hid (xs.drop k=ys.drop k∧Below w.heap.size w wr)) (fun iv _=>(intOf iv+1).toNat)
  case atStart=>
   refine⟨n,Nat.le_refl _,by go_num,?_,Below.refl _ _⟩
   rw[List.drop_of_length_le (by omega),List.drop_of_length_le (by omega)]
  case round=>
   obtain⟨k,hk,rfl,H⟩:=hrel
   by_cases h0:k=0
   ·subst h0
    go_wp2
    go_ret
    obtain⟨hd,hb⟩:=H.out
    rw[List.drop_zero,List.drop_zero] at hd
    rw[hd,c5]
    exact⟨rfl,hb⟩
   ·obtain⟨j,rfl⟩:∃j,k=j+1:=⟨k-1,by omega⟩
    have ej:((j+1:Nat):Int)-1=(j:Int):=by omega
    rw[ej]
    clear ej
    obtain⟨hd,hb⟩:=H.out
    obtain⟨b1,o1,rfl,hc1⟩:=(hX.below hb) (by omega)
    obtain⟨b2,o2,rfl,hc2⟩:=(hY.below hb) (by omega)
    have g1:=hc1 j (by omega)
    have g2:=hc2 j (by omega)
    clear hc1 hc2 hd hb
    rcases Int.lt_trichotomy (gx xs j) (gx ys j) with hc|hc|hc
    ·go_wp2
     go_quiet (fail)
     have hB:=below_drewN H.out.2 nq
     generalize wr.drewN nq=wq at *
     go_wp2
     go_ret
     obtain⟨hd,hb⟩:=H.out
     rw[bC (tM hXu hYu j (by omega) (by omega) hd hc)]
     exact⟨rfl,hB⟩
    ·have hc1:¬gx xs j<gx ys j:=by omega
     have hc2:¬gx ys j<gx xs j:=by omega
     have HC:Hid (gx xs j=gx ys j):=hc
     clear hc
     go_wp2
     go_quiet (fail)
     have hB:=below_drewN H.out.2 nq
     have e1:(wr.drewN nq).cell? ⟨b1,o1+j,none⟩=some (.int .i64 (gx xs j)):=g1
     have e2:(wr.drewN nq).cell? ⟨b2,o2+j,none⟩=some (.int .i64 (gx ys j)):=g2
     generalize wr.drewN nq=wq at *
     go_wp2
     go_quiet (fail)
     go_wp2
     obtain⟨hd,hb⟩:=H.out
     refine⟨⟨j,by omega,by go_num,qg j (by omega) (by omega) hd HC.out,below_drewN hB _⟩,by simp[intOf]⟩
    ·have hc1:¬gx xs j<gx ys j:=by omega
     go_wp2
     go_quiet (fail)
     have hB:=below_drewN H.out.2 nq
     have e1:(wr.drewN nq).cell? ⟨b1,o1+j,none⟩=some (.int .i64 (gx xs j)):=g1
     have e2:(wr.drewN nq).cell? ⟨b2,o2+j,none⟩=some (.int .i64 (gx ys j)):=g2
     generalize wr.drewN nq=wq at *
     go_wp2
     go_quiet (fail)
     go_wp2
     go_ret
     obtain⟨hd,hb⟩:=H.out
     rw[cr (tM hYu hXu j (by omega) (by omega) hd.symm hc)]
     exact⟨rfl,below_drewN hB _⟩
 ·have hb:((n:Int) != (m:Int))=true:=by rw[bne_iff_ne];omega
  rcases Nat.lt_or_ge n m with h|h
  ·have h1:(n:Int)<(m:Int):=by omega
   go_enter Tryz.func80,Tryz.ntmps80
   go_wp2
   go_ret
   rw[bC (e_ hXu hYu (by omega))]
   exact⟨rfl,Below.refl _ _⟩
  ·have h1:¬(n:Int)<(m:Int):=by omega
   go_enter Tryz.func80,Tryz.ntmps80
   go_wp2
   go_ret
   rw[cr (e_ hYu hXu (by omega))]
   exact⟨rfl,Below.refl _ _⟩
end Go.Proofs.YtfnkomoickanfaaGreatDoor
