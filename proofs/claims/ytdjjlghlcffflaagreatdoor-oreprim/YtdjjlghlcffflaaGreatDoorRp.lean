/- Own. -/
import Derived.Test.YtdjjlghlcffflaaGreatDoorCy
set_option linter.unusedVariables false
set_option linter.unusedSimpArgs false
set_option maxHeartbeats 8000000
set_option maxRecDepth 100000
namespace Go.Proofs.YtdjjlghlcffflaaGreatDoor
open Go.RowKit
section
variable {w w':World} {N M K:Nat} {z x y:Int} {s t:Bool} {p q:Option Addr} {n m:Nat}
theorem IP(h:RV w N x s p n)(k:RV w M y t q m)(hN:N<=1000)(hM:M<=1000):
  Calls Tryz.prog 65 #[.agg #[.bool s,.slice p n n],.agg #[.bool t,.slice q m m]] w (RVP (N+M+1) (x*y) w):=by
 obtain⟨ds,h1,rfl,h3⟩:=h;obtain⟨es,k1,rfl,k3⟩:=k;refine(GQ h1 k1 (by omega) (by omega)).mono ?_
 rintro e w' ⟨s',p',n',ds',g1,g2,g3,g4,g5,g6⟩;exact⟨s',p',n',g1,⟨ds',g2,g3,by omega⟩,g5,g6⟩
end
variable {w:World} {N M:Nat} {x y:Int} {e f:Ent}
theorem CK(h:RE w N x e)(k:RE w M y f)(hN:N<=1000)(hM:M<=1000):
  Calls Tryz.prog 65 #[.agg #[.bool e.s,.slice e.p e.n e.c],.agg #[.bool f.s,.slice f.p f.n f.c]] w fun r w'=>∃u:Ent,r=.returned (.agg #[.bool u.s,.slice u.p u.n u.c])/\RE w' (N+M+1) (x*y) u/\aJ w.heap.size u.p/\Below w.heap.size w w':=by
 obtain⟨h1,h4⟩:=h;obtain⟨k1,k4⟩:=k;rw[h4,k4];refine(IP h1 k1 hN hM).mono ?_;rintro r w' ⟨s',p',n',g1,g2,g3,g4⟩;exact⟨⟨s',p',n',n'⟩,g1,⟨g2,rfl⟩,g3,g4⟩
variable {p:Option Addr} {n nc:Nat} {es:List Ent} {zs:List Int}
theorem zJ(h:PR w N p n nc es zs)(i:Nat)(hi:i<n)(hn:n<=1000000):
  Calls Tryz.prog 94 #[.slice p n nc,.int .i64 i] w fun r w'=>r=.returned (.agg #[.bool (ge es i).s,.slice (ge es i).p (ge es i).n (ge es i).c])/\Below w.heap.size w w':=by
 have hel:=h.el;have hal:=ag (o:=.cells #[.bool false,.slice none 0 0] 65) (Jt w.heap.size w);have hX:Bx (w.alloc (.cells #[.bool false,.slice none 0 0] 65)) w.heap.size (.bool false) (.slice none 0 0):=Bx.new _ _ _ rfl;obtain⟨b,o,hp,hc⟩:=(h.below hal).pl (by omega)
 subst hp;obtain⟨c0,c1⟩:=hc i (by omega)
 have i1:(i:Int)<(n:Int):=by omega
 have i2:¬(i:Int)<0:=by omega
 have i3:¬(n:Int)<=(i:Int):=by omega
 obtain⟨r0,r1,f0,f1⟩:=id hX;clear hc h;go_enter Tryz.func94,Tryz.ntmps94;go_upto_region 1 with fail
 generalize w.alloc (.cells #[.bool false,.slice none 0 0] 65)=W at *
 go_wp2;refine bodyPost_ret (v:=.agg #[.bool (ge es i).s,.slice (ge es i).p (ge es i).n (ge es i).c]) (by simp[results,Tryz.results94,go_sem,r0,r1]) rfl ⟨rfl,?_⟩
 exact dD hal (Jr _) _ _
theorem FD(a:Int)(w:World)(h0:0<=a)(h1:a<=9223372036854775807):
  Calls Tryz.prog 48 #[.int .i64 a] w fun r w'=>∃u:Ent,r=.returned (.agg #[.bool u.s,.slice u.p u.n u.c])/\RE w' 4 a u/\aJ w.heap.size u.p/\Below w.heap.size w w':=by
 refine(pN a w (by omega) h1).mono ?_
 rintro e w1 ⟨s1,p1,n1,d1,rfl,hR1,hv1,hn1,hF1,hb1⟩;exact⟨⟨s1,p1,n1,n1⟩,rfl,⟨⟨d1,hR1,hv1,hn1⟩,rfl⟩,hF1,hb1⟩
def DAns(N:Nat)(v:Int)(w:World)(e:Ending)(w':World):Prop:=
 ∃q k cap D,e=.returned (.slice q k cap)/\D.length=k/\k<=cap/\cap<=maxLen/\Rd w' q .i64 D/\U16 D/\vd D=v/\k<=N/\aJ w.heap.size q/\Below w.heap.size w w'
theorem ED(p q:Option Addr)(n nc m mc:Nat)(xs ys:List Int)(w:World)(hn:xs.length=n)(hm:ys.length=m)(hnb:n<=1000000)(hmb:m<=1000000)
  (hX:Rd w p .i64 xs) (hXu:U16 xs) (hY:Rd w q .i64 ys) (hYu:U16 ys):
  Calls Tryz.prog 112 #[.slice p n nc,.slice q m mc] w (DAns (n+m+1) (vd xs+vd ys) w):=by
 obtain⟨i0,hi,hzz⟩:=Option.map_eq_some_iff.1 iS;simp only[Prod.mk.injEq] at hzz
 obtain⟨hz0,hz1,hz2⟩:=hzz;have HI:Hid (Tryz.prog.info? 3=some i0/\i0.zero=some (.int .i64 0)/\i0.size=1/\i0.bytes=8):=⟨hi,hz0,hz1,hz2⟩;clear hi hz0 hz1 hz2;have HN:Hid (xs.length=n/\ys.length=m):=⟨hn,hm⟩;clear hn hm;go_enter Tryz.func112,Tryz.ntmps112;go_wp2;go_loopw [5,6,7] (fun dv cv iv wr=>∃(k:Nat) (c:Int) (ds:List Int),k<=n+m+1/\iv=.int .i64 k/\cv=.int .i64 c/\0<=c/\c<=1/\(k<=n\/k<=m\/c=0)/\ds.length=k/\Hid (vd ds+pd k*c=vd (xs.take k)+vd (ys.take k)/\U16 ds/\wr.ownsRow w.heap.size 3 1 dv k (ds.map (Value.int .i64))/\Below w.heap.size w wr)) (fun _ _ iv _=>n+m+2-(intOf iv).toNat)
 case atStart=>exact⟨0,0,[],Jz _,rfl,rfl,by decide,by decide,.inl (Jz _),rfl,by simp[vd],j9,World.ownsRow_nil _ _ _ _,Jt _ _⟩
 case round=>
  obtain⟨k,c,ds,hk,rfl,rfl,hc0,hc1,hkc,hkl,H⟩:=hrel;have hBr:=H.out.2.2.2;have HV:Hid (vd ds+pd k*c=vd (xs.take k)+vd (ys.take k)/\U16 ds):=⟨H.out.1,H.out.2.1⟩;have HO:Hid (wr.ownsRow w.heap.size 3 1 u5 k (ds.map (Value.int .i64))):=H.out.2.2.1;have HL:Hid (ds.length=k):=hkl;clear H hkl;obtain⟨x0,x1⟩:=hXu k;obtain⟨y0,y1⟩:=hYu k;obtain⟨hi,hz0,hz1,hz2⟩:=HI.out;by_cases h1:k<n
  ·have h1I:(k:Int)<(n:Int):=by omega
   obtain⟨b,off,rfl,hcell⟩:=(hX.below hBr) (by have:=HN.out;omega)
   have hck:=hcell k (by have:=HN.out;omega)
   clear hcell;by_cases h2:k<m
   ·have h2I:(k:Int)<(m:Int):=by omega
    obtain⟨b2,off2,rfl,hcell⟩:=(hY.below hBr) (by have:=HN.out;omega)
    have hck2:=hcell k (by have:=HN.out;omega)
    clear hcell;have q1:(c+gx xs k+gx ys k).tmod 65536=(c+gx xs k+gx ys k)%65536:=Int.tmod_eq_emod_of_nonneg (by omega)
    have q2:(c+gx xs k+gx ys k).tdiv 65536=(c+gx xs k+gx ys k)/65536:=JM (by omega)
    go_wp2_with (refine wpList_append_lies _ rfl _ _ 63 rfl w.heap.size 3 i0 (.int .i64 0) 1 8 Tryz.underlying63 hi hz0 hz1 hz2 rfl (by decide) u5 k (ds.map (Value.int .i64)) rfl (HO.out.alloc _) ⟨wr.heap.size,0,none⟩ 1 1 [.int .i64 ((c+gx xs k+gx ys k)%65536)] rfl rfl ?_ (fun x hx=>by simp at hx;subst hx;rfl) (by decide) (by unfold maxLen;omega) (by omega) (by have:=hBr.size;simp;omega) _ rfl ?_;exact World.news_of_block (heap_alloc_new wr _);intro g cap w3 hown3 hgrow3 hat3 hlt3;have hB3:Below w.heap.size w w3:=(du hBr).grown hgrow3 (by have:=hBr.size;simp;omega) (fun q hq=>(HO.out.lt q hq).1))
    refine⟨⟨k+1,(c+gx xs k+gx ys k)/65536,ds++[(c+gx xs k+gx ys k)%65536],by omega,by go_num,by go_num,by omega,by omega,by omega,by have:=HL.out;simp;omega,?_,cV HV.out.2 (dM (by omega)),?_,hB3⟩,by simp[intOf];omega⟩
    ·have e:=jM (pd k) (c+gx xs k+gx ys k)
     have e0:=HV.out.1;rw[cO,dz,bU,HL.out,aG,aG];simp only[JF] at e ⊢
     omega
    ·rw[List.map_append]
     exact hown3
   ·have h2I:¬(k:Int)<(m:Int):=by omega
    have q1:(c+gx xs k).tmod 65536=(c+gx xs k)%65536:=Int.tmod_eq_emod_of_nonneg (by omega)
    have q2:(c+gx xs k).tdiv 65536=(c+gx xs k)/65536:=JM (by omega)
    have hy0:Hid (gx ys k=0):=ak ys m (by have:=HN.out;omega) k (by omega)
    go_wp2_with (refine wpList_append_lies _ rfl _ _ 63 rfl w.heap.size 3 i0 (.int .i64 0) 1 8 Tryz.underlying63 hi hz0 hz1 hz2 rfl (by decide) u5 k (ds.map (Value.int .i64)) rfl (HO.out.alloc _) ⟨wr.heap.size,0,none⟩ 1 1 [.int .i64 ((c+gx xs k)%65536)] rfl rfl ?_ (fun x hx=>by simp at hx;subst hx;rfl) (by decide) (by unfold maxLen;omega) (by omega) (by have:=hBr.size;simp;omega) _ rfl ?_;exact World.news_of_block (heap_alloc_new wr _);intro g cap w3 hown3 hgrow3 hat3 hlt3;have hB3:Below w.heap.size w w3:=(du hBr).grown hgrow3 (by have:=hBr.size;simp;omega) (fun q hq=>(HO.out.lt q hq).1))
    refine⟨⟨k+1,(c+gx xs k)/65536,ds++[(c+gx xs k)%65536],by omega,by go_num,by go_num,by omega,by omega,by omega,by have:=HL.out;simp;omega,?_,cV HV.out.2 (dM (by omega)),?_,hB3⟩,by simp[intOf];omega⟩
    ·have e:=jM (pd k) (c+gx xs k)
     have e0:=HV.out.1;rw[cO,dz,bU,HL.out,aG,aG];rw[hy0.out,JC,Int.add_zero];simp only[JF] at e ⊢
     omega
    ·rw[List.map_append]
     exact hown3
  ·have h1I:¬(k:Int)<(n:Int):=by omega
   have hx0:Hid (gx xs k=0):=ak xs n (by have:=HN.out;omega) k (by omega)
   by_cases h2:k<m
   ·have h2I:(k:Int)<(m:Int):=by omega
    obtain⟨b2,off2,rfl,hcell⟩:=(hY.below hBr) (by have:=HN.out;omega)
    have hck2:=hcell k (by have:=HN.out;omega)
    clear hcell;have q1:(c+gx ys k).tmod 65536=(c+gx ys k)%65536:=Int.tmod_eq_emod_of_nonneg (by omega)
    have q2:(c+gx ys k).tdiv 65536=(c+gx ys k)/65536:=JM (by omega)
    go_wp2_with (refine wpList_append_lies _ rfl _ _ 63 rfl w.heap.size 3 i0 (.int .i64 0) 1 8 Tryz.underlying63 hi hz0 hz1 hz2 rfl (by decide) u5 k (ds.map (Value.int .i64)) rfl (HO.out.alloc _) ⟨wr.heap.size,0,none⟩ 1 1 [.int .i64 ((c+gx ys k)%65536)] rfl rfl ?_ (fun x hx=>by simp at hx;subst hx;rfl) (by decide) (by unfold maxLen;omega) (by omega) (by have:=hBr.size;simp;omega) _ rfl ?_;exact World.news_of_block (heap_alloc_new wr _);intro g cap w3 hown3 hgrow3 hat3 hlt3;have hB3:Below w.heap.size w w3:=(du hBr).grown hgrow3 (by have:=hBr.size;simp;omega) (fun q hq=>(HO.out.lt q hq).1))
    refine⟨⟨k+1,(c+gx ys k)/65536,ds++[(c+gx ys k)%65536],by omega,by go_num,by go_num,by omega,by omega,by omega,by have:=HL.out;simp;omega,?_,cV HV.out.2 (dM (by omega)),?_,hB3⟩,by simp[intOf];omega⟩
    ·have e:=jM (pd k) (c+gx ys k)
     have e0:=HV.out.1;rw[cO,dz,bU,HL.out,aG,aG];rw[hx0.out,JC,Int.add_zero];simp only[JF] at e ⊢
     omega
    ·rw[List.map_append]
     exact hown3
   ·have h2I:¬(k:Int)<(m:Int):=by omega
    have hy0:Hid (gx ys k=0):=ak ys m (by have:=HN.out;omega) k (by omega)
    by_cases h3:0<c
    ·obtain rfl:c=1:=by omega
     go_wp2_with (refine wpList_append_lies _ rfl _ _ 63 rfl w.heap.size 3 i0 (.int .i64 0) 1 8 Tryz.underlying63 hi hz0 hz1 hz2 rfl (by decide) u5 k (ds.map (Value.int .i64)) rfl (HO.out.alloc _) ⟨wr.heap.size,0,none⟩ 1 1 [.int .i64 (1)] rfl rfl ?_ (fun x hx=>by simp at hx;subst hx;rfl) (by decide) (by unfold maxLen;omega) (by omega) (by have:=hBr.size;simp;omega) _ rfl ?_;exact World.news_of_block (heap_alloc_new wr _);intro g cap w3 hown3 hgrow3 hat3 hlt3;have hB3:Below w.heap.size w w3:=(du hBr).grown hgrow3 (by have:=hBr.size;simp;omega) (fun q hq=>(HO.out.lt q hq).1))
     refine⟨⟨k+1,0,ds++[1],by omega,by go_num,rfl,by decide,by decide,.inr (.inr rfl),by have:=HL.out;simp;omega,?_,cV HV.out.2 (dM (by decide)),?_,hB3⟩,by simp[intOf];omega⟩
     ·have e0:=HV.out.1
      rw[cO,dz,bU,HL.out,aG,aG,hx0.out,hy0.out];omega
     ·rw[List.map_append]
      exact hown3
    ·obtain rfl:c=0:=by omega
     have hform:∃q' cap,u5=.slice q' k cap/\k<=cap/\cap<=maxLen/\Rd wr q' .i64 ds/\aJ w.heap.size q':=by
      have hown:=HO.out;rcases hown.2 with ⟨h1,h2⟩|⟨g,cap,cur,h1,hbg,_,h4,h5,_⟩
      ·refine⟨none,0,by rw[h1,h2],by omega,Jz _,?_,dI⟩
       have:ds=[]:=JB (by have:=HL.out;omega)
       rw[this];exact Rd.nil
      ·subst h1
       exact⟨_,cap,rfl,h4,h5,gT hown,aY hbg⟩
     obtain⟨q',cap,rfl,hq1,hq2,hq3,hq4⟩:=hform;go_wp2;go_ret;have e0:=HV.out.1;rw[JC,Int.add_zero,Jv (by have:=HN.out;omega),Jv (by have:=HN.out;omega)] at e0
     exact⟨q',k,cap,ds,rfl,HL.out,hq1,hq2,hq3,HV.out.2,e0,hk,hq4,hBr⟩
theorem xQ(p q:Option Addr)(n nc m mc:Nat)(xs ys:List Int)(w:World)(hn:xs.length=n)(hm:ys.length=m)(hnb:n<=1000000)(hmn:m<=n)(hge:vd ys<=vd xs)
  (hX:Rd w p .i64 xs) (hXu:U16 xs) (hY:Rd w q .i64 ys) (hYu:U16 ys):
  Calls Tryz.prog 114 #[.slice p n nc,.slice q m mc] w (DAns n (vd xs-vd ys) w):=by
 obtain⟨i0,hi,hzz⟩:=Option.map_eq_some_iff.1 iS;simp only[Prod.mk.injEq] at hzz
 obtain⟨hz0,hz1,hz2⟩:=hzz;have HI:Hid (Tryz.prog.info? 3=some i0/\i0.zero=some (.int .i64 0)/\i0.size=1/\i0.bytes=8):=⟨hi,hz0,hz1,hz2⟩;clear hi hz0 hz1 hz2;have HN:Hid (xs.length=n/\ys.length=m):=⟨hn,hm⟩;clear hn hm;go_enter Tryz.func114,Tryz.ntmps114;go_wp2;go_loopw [5,6,7,8] (fun dv cv iv nv wr=>∃(k:Nat) (c:Int) (ds:List Int),k<=n/\iv=.int .i64 k/\cv=.int .i64 c/\0<=c/\c<=1/\ds.length=k/\Hid (vd ds-pd k*c=vd (xs.take k)-vd (ys.take k)/\U16 ds/\wr.ownsRow w.heap.size 3 1 dv k (ds.map (Value.int .i64))/\Below w.heap.size w wr)) (fun _ _ iv _ _=>n-(intOf iv).toNat)
 case atStart=>exact⟨0,0,[],Jz _,rfl,rfl,by decide,by decide,rfl,by simp[vd],j9,World.ownsRow_nil _ _ _ _,Jt _ _⟩
 case round=>
  obtain⟨k,c,ds,hk,rfl,rfl,hc0,hc1,hkl,H⟩:=hrel;have hBr:=H.out.2.2.2;have HV:Hid (vd ds-pd k*c=vd (xs.take k)-vd (ys.take k)/\U16 ds):=⟨H.out.1,H.out.2.1⟩;have HO:Hid (wr.ownsRow w.heap.size 3 1 u5 k (ds.map (Value.int .i64))):=H.out.2.2.1;have HL:Hid (ds.length=k):=hkl;clear H hkl;obtain⟨x0,x1⟩:=hXu k;obtain⟨y0,y1⟩:=hYu k;obtain⟨hi,hz0,hz1,hz2⟩:=HI.out;by_cases h1:k<n
  ·have h1I:(k:Int)<(n:Int):=by omega
   obtain⟨b,off,rfl,hcell⟩:=(hX.below hBr) (by have:=HN.out;omega)
   have hck:=hcell k (by have:=HN.out;omega)
   clear hcell;by_cases h2:k<m
   ·have h2I:(k:Int)<(m:Int):=by omega
    obtain⟨b2,off2,rfl,hcell⟩:=(hY.below hBr) (by have:=HN.out;omega)
    have hck2:=hcell k (by have:=HN.out;omega)
    clear hcell;by_cases h3:gx xs k-c-gx ys k<0
    ·go_wp2_with (refine wpList_append_lies _ rfl _ _ 63 rfl w.heap.size 3 i0 (.int .i64 0) 1 8 Tryz.underlying63 hi hz0 hz1 hz2 rfl (by decide) u5 k (ds.map (Value.int .i64)) rfl (HO.out.alloc _) ⟨wr.heap.size,0,none⟩ 1 1 [.int .i64 (gx xs k-c-gx ys k+65536)] rfl rfl ?_ (fun x hx=>by simp at hx;subst hx;rfl) (by decide) (by unfold maxLen;omega) (by omega) (by have:=hBr.size;simp;omega) _ rfl ?_;exact World.news_of_block (heap_alloc_new wr _);intro g cap w3 hown3 hgrow3 hat3 hlt3;have hB3:Below w.heap.size w w3:=(du hBr).grown hgrow3 (by have:=hBr.size;simp;omega) (fun q hq=>(HO.out.lt q hq).1))
     refine⟨⟨k+1,1,ds++[gx xs k-c-gx ys k+65536],by omega,by go_num,rfl,by decide,by decide,by have:=HL.out;simp;omega,?_,cV HV.out.2 (dM (by omega)),?_,hB3⟩,by simp[intOf];omega⟩
     ·have e0:=HV.out.1
      rw[cO,dz,bU,HL.out,aG,aG];simp only[JF,Int.mul_sub] at e0 ⊢
      omega
     ·rw[List.map_append]
      exact hown3
    ·go_wp2_with (refine wpList_append_lies _ rfl _ _ 63 rfl w.heap.size 3 i0 (.int .i64 0) 1 8 Tryz.underlying63 hi hz0 hz1 hz2 rfl (by decide) u5 k (ds.map (Value.int .i64)) rfl (HO.out.alloc _) ⟨wr.heap.size,0,none⟩ 1 1 [.int .i64 (gx xs k-c-gx ys k)] rfl rfl ?_ (fun x hx=>by simp at hx;subst hx;rfl) (by decide) (by unfold maxLen;omega) (by omega) (by have:=hBr.size;simp;omega) _ rfl ?_;exact World.news_of_block (heap_alloc_new wr _);intro g cap w3 hown3 hgrow3 hat3 hlt3;have hB3:Below w.heap.size w w3:=(du hBr).grown hgrow3 (by have:=hBr.size;simp;omega) (fun q hq=>(HO.out.lt q hq).1))
     refine⟨⟨k+1,0,ds++[gx xs k-c-gx ys k],by omega,by go_num,rfl,by decide,by decide,by have:=HL.out;simp;omega,?_,cV HV.out.2 (dM (by omega)),?_,hB3⟩,by simp[intOf];omega⟩
     ·have e0:=HV.out.1
      rw[cO,dz,bU,HL.out,aG,aG];simp only[JF,Int.mul_sub] at e0 ⊢
      omega
     ·rw[List.map_append]
      exact hown3
   ·have h2I:¬(k:Int)<(m:Int):=by omega
    have hy0:Hid (gx ys k=0):=ak ys m (by have:=HN.out;omega) k (by omega)
    by_cases h3:gx xs k-c<0
    ·go_wp2_with (refine wpList_append_lies _ rfl _ _ 63 rfl w.heap.size 3 i0 (.int .i64 0) 1 8 Tryz.underlying63 hi hz0 hz1 hz2 rfl (by decide) u5 k (ds.map (Value.int .i64)) rfl (HO.out.alloc _) ⟨wr.heap.size,0,none⟩ 1 1 [.int .i64 (gx xs k-c+65536)] rfl rfl ?_ (fun x hx=>by simp at hx;subst hx;rfl) (by decide) (by unfold maxLen;omega) (by omega) (by have:=hBr.size;simp;omega) _ rfl ?_;exact World.news_of_block (heap_alloc_new wr _);intro g cap w3 hown3 hgrow3 hat3 hlt3;have hB3:Below w.heap.size w w3:=(du hBr).grown hgrow3 (by have:=hBr.size;simp;omega) (fun q hq=>(HO.out.lt q hq).1))
     refine⟨⟨k+1,1,ds++[gx xs k-c+65536],by omega,by go_num,rfl,by decide,by decide,by have:=HL.out;simp;omega,?_,cV HV.out.2 (dM (by omega)),?_,hB3⟩,by simp[intOf];omega⟩
     ·have e0:=HV.out.1
      rw[cO,dz,bU,HL.out,aG,aG];rw[hy0.out];simp only[JF,Int.mul_sub,JC] at e0 ⊢
      omega
     ·rw[List.map_append]
      exact hown3
    ·go_wp2_with (refine wpList_append_lies _ rfl _ _ 63 rfl w.heap.size 3 i0 (.int .i64 0) 1 8 Tryz.underlying63 hi hz0 hz1 hz2 rfl (by decide) u5 k (ds.map (Value.int .i64)) rfl (HO.out.alloc _) ⟨wr.heap.size,0,none⟩ 1 1 [.int .i64 (gx xs k-c)] rfl rfl ?_ (fun x hx=>by simp at hx;subst hx;rfl) (by decide) (by unfold maxLen;omega) (by omega) (by have:=hBr.size;simp;omega) _ rfl ?_;exact World.news_of_block (heap_alloc_new wr _);intro g cap w3 hown3 hgrow3 hat3 hlt3;have hB3:Below w.heap.size w w3:=(du hBr).grown hgrow3 (by have:=hBr.size;simp;omega) (fun q hq=>(HO.out.lt q hq).1))
     refine⟨⟨k+1,0,ds++[gx xs k-c],by omega,by go_num,rfl,by decide,by decide,by have:=HL.out;simp;omega,?_,cV HV.out.2 (dM (by omega)),?_,hB3⟩,by simp[intOf];omega⟩
     ·have e0:=HV.out.1
      rw[cO,dz,bU,HL.out,aG,aG];rw[hy0.out];simp only[JF,Int.mul_sub,JC] at e0 ⊢
      omega
     ·rw[List.map_append]
      exact hown3
  ·have h1I:¬(k:Int)<(n:Int):=by omega
   obtain rfl:k=n:=by omega
   have hform:∃q' cap,u5=.slice q' k cap/\k<=cap/\cap<=maxLen/\Rd wr q' .i64 ds/\aJ w.heap.size q':=by
    have hown:=HO.out;rcases hown.2 with ⟨h1,h2⟩|⟨g,cap,cur,h1,hbg,_,h4,h5,_⟩
    ·refine⟨none,0,by rw[h1,h2],by omega,Jz _,?_,dI⟩
     have:ds=[]:=JB (by have:=HL.out;omega)
     rw[this];exact Rd.nil
    ·subst h1
     exact⟨_,cap,rfl,h4,h5,gT hown,aY hbg⟩
   obtain⟨q',cap,rfl,hq1,hq2,hq3,hq4⟩:=hform;go_wp2;go_ret;have e0:=HV.out.1;rw[Jv (by have:=HN.out;omega),Jv (by have:=HN.out;omega)] at e0
   have hl:=gg HV.out.2;rw[HL.out] at hl
   have hcz:c=0:=by
    rcases(show c=0\/c=1 by omega) with h|h
    ·exact h
    ·rw[h,Int.mul_one] at e0;omega
   rw[hcz,JC,Int.sub_zero] at e0
   exact⟨q',k,cap,ds,rfl,HL.out,hq1,hq2,hq3,HV.out.2,e0,Jr _,hq4,hBr⟩
theorem kA(p q:Option Addr)(n nc m mc:Nat)(xs ys:List Int)(w:World)(hn:xs.length=n)(hm:ys.length=m)(hnb:n<=1000000000)(hmb:m<=1000000000)(tx:ad xs=n)(ty:ad ys=m)
  (hX:Rd w p .i64 xs) (hXu:U16 xs) (hY:Rd w q .i64 ys) (hYu:U16 ys):
  Calls Tryz.prog 113 #[.slice p n nc,.slice q m mc] w fun e w'=>e=.returned (.int .i64 (bQ (vd xs) (vd ys)))/\Below w.heap.size w w':=by
 by_cases hne:n=m
 ·subst hne
  have hb:((n:Int) != (n:Int))=false:=by simp
  go_enter Tryz.func113,Tryz.ntmps113;go_wp2_with fail;go_loopw [5] (fun iv wr=>∃k:Nat,k<=n/\iv=.int .i64 ((k:Int)-1)/\Hid (xs.drop k=ys.drop k/\Below w.heap.size w wr)) (fun iv _=>(intOf iv+1).toNat)
  case atStart=>
   refine⟨n,Jr _,by go_num,?_,Jt _ _⟩
   rw[JL (by omega),JL (by omega)]
  case round=>
   obtain⟨k,hk,rfl,H⟩:=hrel;by_cases h0:k=0
   ·subst h0
    go_wp2;go_ret;obtain⟨hd,hb⟩:=H.out;rw[List.drop_zero,List.drop_zero] at hd
    rw[hd,iR];exact⟨rfl,hb⟩
   ·obtain⟨j,rfl⟩:∃j,k=j+1:=⟨k-1,by omega⟩
    have ej:((j+1:Nat):Int)-1=(j:Int):=by omega
    rw[ej];clear ej;obtain⟨hd,hb⟩:=H.out;obtain⟨b1,o1,rfl,hc1⟩:=(hX.below hb) (by omega)
    obtain⟨b2,o2,rfl,hc2⟩:=(hY.below hb) (by omega)
    have g1:=hc1 j (by omega)
    have g2:=hc2 j (by omega)
    clear hc1 hc2 hd hb;rcases Int.lt_trichotomy (gx xs j) (gx ys j) with hc|hc|hc
    ·go_wp2
     go_quiet (fail);have hB:=below_drewN H.out.2 nq;generalize wr.drewN nq=wq at *
     go_wp2;go_ret;obtain⟨hd,hb⟩:=H.out;rw[cK (xY hXu hYu j (by omega) (by omega) hd hc)]
     exact⟨rfl,hB⟩
    ·have hc1:¬gx xs j<gx ys j:=by omega
     have hc2:¬gx ys j<gx xs j:=by omega
     have HC:Hid (gx xs j=gx ys j):=hc;clear hc;go_wp2;go_quiet (fail);have hB:=below_drewN H.out.2 nq;have e1:(wr.drewN nq).cell? ⟨b1,o1+j,none⟩=some (.int .i64 (gx xs j)):=g1;have e2:(wr.drewN nq).cell? ⟨b2,o2+j,none⟩=some (.int .i64 (gx ys j)):=g2;generalize wr.drewN nq=wq at *
     go_wp2;go_quiet (fail);go_wp2;obtain⟨hd,hb⟩:=H.out;refine⟨⟨j,by omega,by go_num,uB j (by omega) (by omega) hd HC.out,below_drewN hB _⟩,by simp[intOf]⟩
    ·have hc1:¬gx xs j<gx ys j:=by omega
     go_wp2;go_quiet (fail);have hB:=below_drewN H.out.2 nq;have e1:(wr.drewN nq).cell? ⟨b1,o1+j,none⟩=some (.int .i64 (gx xs j)):=g1;have e2:(wr.drewN nq).cell? ⟨b2,o2+j,none⟩=some (.int .i64 (gx ys j)):=g2;generalize wr.drewN nq=wq at *
     go_wp2;go_quiet (fail);go_wp2;go_ret;obtain⟨hd,hb⟩:=H.out;rw[ee (xY hYu hXu j (by omega) (by omega) hd.symm hc)]
     exact⟨rfl,below_drewN hB _⟩
 ·have hb:((n:Int) != (m:Int))=true:=by rw[bne_iff_ne];omega
  rcases Ju n m with h|h
  ·have h1:(n:Int)<(m:Int):=by omega
   go_enter Tryz.func113,Tryz.ntmps113;go_wp2;go_ret;rw[cK (ic hXu hYu (by omega))]
   exact⟨rfl,Jt _ _⟩
  ·have h1:¬(n:Int)<(m:Int):=by omega
   go_enter Tryz.func113,Tryz.ntmps113;go_wp2;go_ret;rw[ee (ic hYu hXu (by omega))]
   exact⟨rfl,Jt _ _⟩
theorem CH(s:Bool)(p q:Option Addr)(n nc m mc:Nat)(xs ys:List Int)(w:World)(hn:xs.length=n)(hm:ys.length=m)(hnb:n<=1000000)(hmb:m<=1000000)(hX:Rd w p .i64 xs)(hXu:U16 xs)(hY:Rd w q .i64 ys)(hYu:U16 ys):
  Calls Tryz.prog 64 #[.agg #[.bool s,.slice p n nc],.agg #[.bool s,.slice q m mc]] w (j_ (n+m+1) (aF s xs+aF s ys) w):=by
 have hss:(s==s)=true:=by simp
 have HN:Hid (xs.length=n/\ys.length=m):=⟨hn,hm⟩;clear hn hm;go_enter Tryz.func64,Tryz.ntmps64;go_wp2_with fail;have hX3:=iJ w (.bool s) (.slice p n nc) (.bool s) (.slice q m mc) (.bool false) (.slice none 0 0) 65 65 65;generalize ((w.alloc (Obj.cells #[Value.bool s,Value.slice p n nc] 65)).alloc (Obj.cells #[Value.bool s,Value.slice q m mc] 65)).alloc (Obj.cells #[Value.bool false,Value.slice none 0 0] 65)=W at *
 have hXW:=hX.below hX3.below;have hYW:=hY.below hX3.below;have k0:=hX3.ca0;have k1:=hX3.ca1;have k2:=hX3.cb0;have k3:=hX3.cb1;go_region_held3 (fun w'=>w'.cell? ⟨w.heap.size,0,none⟩=some (.bool s)/\w'.cell? ⟨w.heap.size,1,none⟩=some (.slice p n nc)/\w'.cell? ⟨w.heap.size+1,0,none⟩=some (.bool s)/\w'.cell? ⟨w.heap.size+1,1,none⟩=some (.slice q m mc)) (first|exact⟨by assumption,by assumption,by assumption,by assumption⟩|exact dU (by assumption) (by assumption)|(simp[go_sem, *];done))
  (first
   |(go_at_call 112;obtain⟨hn,hm⟩:=HN.out;refine(ED p q n nc m mc xs ys _ hn hm hnb hmb hXW.drew hXu hYW.drew hYu).mono ?_;clear hn hm;rintro e w1 ⟨q1,n1,c1,D,rfl,hl1,hc1,hc2,hR1,hU1,hv1,hn1,hF1,hb1⟩;have HV1:Hid (D.length=n1/\vd D=vd xs+vd ys):=⟨hl1,hv1⟩;clear hl1 hv1)
   |(go_at_call 66;refine(bI s q1 n1 c1 D _ HV1.out.1 hc1 hc2 hR1).mono ?_;rintro e w2 ⟨rfl,hb2⟩;obtain⟨c0',c1',f0,f1⟩:=cj (ae (aQ hb1) hb2) hX3.cr0 hX3.cr1 hX3.fr0 hX3.fr1))
 go_wp2;have hsz:=hX3.size;refine bodyPost_ret (v:=.agg #[.bool (nsg s D),.slice q1 (ad D) (ad D)]) (by simp[results,Tryz.results64,go_sem,c0',c1']) rfl ?_
 exact ph hX3.below (r:=w.heap.size+1+1) (by omega) (by omega) (aQ hb1) hb2 hR1 hF1 hU1 (by have:=HV1.out.1;omega) (by omega) (by rw[aF,HV1.out.2,aF,aF];cases s<;>simp<;>omega)
theorem GJ(s:Bool)(p q:Option Addr)(n nc m mc:Nat)(xs ys:List Int)(w:World)(hn:xs.length=n)(hm:ys.length=m)(hnb:n<=1000000)(hmb:m<=1000000)(tx:ad xs=n)(ty:ad ys=m)(hX:Rd w p .i64 xs)(hXu:U16 xs)(hY:Rd w q .i64 ys)(hYu:U16 ys)(hge:vd ys<=vd xs):
  Calls Tryz.prog 64 #[.agg #[.bool s,.slice p n nc],.agg #[.bool (!s),.slice q m mc]] w (j_ (n+m+1) (aF s xs+aF (!s) ys) w):=by
 have hss:(s == !s)=false:=by cases s<;>rfl
 have hic:0<=bQ (vd xs) (vd ys):=by
  rw[bQ,if_neg (by omega)];split<;>decide
 have hmn:m<=n:=by
  rcases Ju n m with h|h
  ·have:=ic hXu hYu (by omega);omega
  ·exact h
 have HN:Hid ((xs.length=n/\ys.length=m)/\ad xs=n/\ad ys=m):=⟨⟨hn,hm⟩,tx,ty⟩;clear hn hm tx ty;go_enter Tryz.func64,Tryz.ntmps64;go_wp2_with fail;have hX0:=iJ w (.bool s) (.slice p n nc) (.bool (!s)) (.slice q m mc) (.bool false) (.slice none 0 0) 65 65 65;generalize ((w.alloc (Obj.cells #[Value.bool s,Value.slice p n nc] 65)).alloc (Obj.cells #[Value.bool !s,Value.slice q m mc] 65)).alloc (Obj.cells #[Value.bool false,Value.slice none 0 0] 65)=W0 at *
 refine(kA p q n nc m mc xs ys _ HN.out.1.1 HN.out.1.2 (by omega) (by omega) HN.out.2.1 HN.out.2.2 (hX.below hX0.below) hXu (hY.below hX0.below) hYu).mono ?_
 rintro e W ⟨rfl,hb0⟩;have hX3:=hX0.later hb0;clear hX0 hb0 W0;have hXW:=hX.below hX3.below;have hYW:=hY.below hX3.below;have k0:=hX3.ca0;have k1:=hX3.ca1;have k2:=hX3.cb0;have k3:=hX3.cb1;go_wp2_with fail;go_region_held3 (fun w'=>w'.cell? ⟨w.heap.size,0,none⟩=some (.bool s)/\w'.cell? ⟨w.heap.size,1,none⟩=some (.slice p n nc)/\w'.cell? ⟨w.heap.size+1,0,none⟩=some (.bool (!s))/\w'.cell? ⟨w.heap.size+1,1,none⟩=some (.slice q m mc)) (first|exact⟨by assumption,by assumption,by assumption,by assumption⟩|exact dU (by assumption) (by assumption)|(simp[go_sem, *];done))
  (first
   |(go_at_call 114;obtain⟨⟨hn,hm⟩,tx,ty⟩:=HN.out;refine(xQ p q n nc m mc xs ys _ hn hm hnb hmn hge hXW.drew hXu hYW.drew hYu).mono ?_;clear hn hm tx ty;rintro e w1 ⟨q1,n1,c1,D,rfl,hl1,hc1,hc2,hR1,hU1,hv1,hn1,hF1,hb1⟩;have HV1:Hid (D.length=n1/\vd D=vd xs-vd ys):=⟨hl1,hv1⟩;clear hl1 hv1)
   |(go_at_call 66;refine(bI s q1 n1 c1 D _ HV1.out.1 hc1 hc2 hR1).mono ?_;rintro e w2 ⟨rfl,hb2⟩;obtain⟨c0',c1',f0,f1⟩:=cj (ae (aQ hb1) hb2) hX3.cr0 hX3.cr1 hX3.fr0 hX3.fr1))
 go_wp2;have hsz:=hX3.size;refine bodyPost_ret (v:=.agg #[.bool (nsg s D),.slice q1 (ad D) (ad D)]) (by simp[results,Tryz.results64,go_sem,c0',c1']) rfl ?_
 exact ph hX3.below (r:=w.heap.size+1+1) (by omega) (by omega) (aQ hb1) hb2 hR1 hF1 hU1 (by have:=HV1.out.1;omega) (by omega) (by rw[aF,HV1.out.2,aF,aF];cases s<;>simp<;>omega)
theorem GK(s:Bool)(p q:Option Addr)(n nc m mc:Nat)(xs ys:List Int)(w:World)(hn:xs.length=n)(hm:ys.length=m)(hnb:n<=1000000)(hmb:m<=1000000)(tx:ad xs=n)(ty:ad ys=m)(hX:Rd w p .i64 xs)(hXu:U16 xs)(hY:Rd w q .i64 ys)(hYu:U16 ys)(hge:vd xs<vd ys):
  Calls Tryz.prog 64 #[.agg #[.bool s,.slice p n nc],.agg #[.bool (!s),.slice q m mc]] w (j_ (n+m+1) (aF s xs+aF (!s) ys) w):=by
 have hss:(s == !s)=false:=by cases s<;>rfl
 have hic:¬0<=bQ (vd xs) (vd ys):=by
  rw[cK hge];decide
 have hmn:n<=m:=by
  rcases Ju m n with h|h
  ·have:=ic hYu hXu (by omega);omega
  ·exact h
 have HN:Hid ((xs.length=n/\ys.length=m)/\ad xs=n/\ad ys=m):=⟨⟨hn,hm⟩,tx,ty⟩;clear hn hm tx ty;go_enter Tryz.func64,Tryz.ntmps64;go_wp2_with fail;have hX0:=iJ w (.bool s) (.slice p n nc) (.bool (!s)) (.slice q m mc) (.bool false) (.slice none 0 0) 65 65 65;generalize ((w.alloc (Obj.cells #[Value.bool s,Value.slice p n nc] 65)).alloc (Obj.cells #[Value.bool !s,Value.slice q m mc] 65)).alloc (Obj.cells #[Value.bool false,Value.slice none 0 0] 65)=W0 at *
 refine(kA p q n nc m mc xs ys _ HN.out.1.1 HN.out.1.2 (by omega) (by omega) HN.out.2.1 HN.out.2.2 (hX.below hX0.below) hXu (hY.below hX0.below) hYu).mono ?_
 rintro e W ⟨rfl,hb0⟩;have hX3:=hX0.later hb0;clear hX0 hb0 W0;have hXW:=hX.below hX3.below;have hYW:=hY.below hX3.below;have k0:=hX3.ca0;have k1:=hX3.ca1;have k2:=hX3.cb0;have k3:=hX3.cb1;go_wp2_with fail;go_region_held3 (fun w'=>w'.cell? ⟨w.heap.size,0,none⟩=some (.bool s)/\w'.cell? ⟨w.heap.size,1,none⟩=some (.slice p n nc)/\w'.cell? ⟨w.heap.size+1,0,none⟩=some (.bool (!s))/\w'.cell? ⟨w.heap.size+1,1,none⟩=some (.slice q m mc)) (first|exact⟨by assumption,by assumption,by assumption,by assumption⟩|exact dU (by assumption) (by assumption)|(simp[go_sem, *];done))
  (first
   |(go_at_call 114;obtain⟨⟨hn,hm⟩,tx,ty⟩:=HN.out;refine(xQ q p m mc n nc ys xs _ hm hn hmb hmn (by omega) hYW.drew hYu hXW.drew hXu).mono ?_;clear hn hm tx ty;rintro e w1 ⟨q1,n1,c1,D,rfl,hl1,hc1,hc2,hR1,hU1,hv1,hn1,hF1,hb1⟩;have HV1:Hid (D.length=n1/\vd D=vd ys-vd xs):=⟨hl1,hv1⟩;clear hl1 hv1)
   |(go_at_call 66;refine(bI (!s) q1 n1 c1 D _ HV1.out.1 hc1 hc2 hR1).mono ?_;rintro e w2 ⟨rfl,hb2⟩;obtain⟨c0',c1',f0,f1⟩:=cj (ae (aQ hb1) hb2) hX3.cr0 hX3.cr1 hX3.fr0 hX3.fr1))
 go_wp2;have hsz:=hX3.size;refine bodyPost_ret (v:=.agg #[.bool (nsg (!s) D),.slice q1 (ad D) (ad D)]) (by simp[results,Tryz.results64,go_sem,c0',c1']) rfl ?_
 exact ph hX3.below (r:=w.heap.size+1+1) (by omega) (by omega) (aQ hb1) hb2 hR1 hF1 hU1 (by have:=HV1.out.1;omega) (by omega) (by rw[aF,HV1.out.2,aF,aF];cases s<;>simp<;>omega)
variable {s:Bool} {q:Option Addr} {m:Nat} {xs ys:List Int}
theorem GM{t:Bool}(h:RN w s p n xs)(k:RN w t q m ys)(hn:n<=1000000)(hm:m<=1000000):
  Calls Tryz.prog 64 #[.agg #[.bool s,.slice p n n],.agg #[.bool t,.slice q m m]] w (j_ (n+m+1) (aF s xs+aF t ys) w):=by
 by_cases e:s=t
 ·subst e;exact CH s p q n n m m xs ys w h.len k.len hn hm h.rd h.u k.rd k.u
 ·have:t = !s:=by cases s<;>cases t<;>simp_all
  subst this;rcases Int.lt_or_le (vd xs) (vd ys) with hv|hv
  ·exact GK s p q n n m m xs ys w h.len k.len hn hm h.nrm k.nrm h.rd h.u k.rd k.u hv
  ·exact GJ s p q n n m m xs ys w h.len k.len hn hm h.nrm k.nrm h.rd h.u k.rd k.u hv
variable {K g o:Nat} {z:Int} {u v:Value}
theorem EV.b8(h:EV w K z e)(ho:0<e.n->Off g e.p):EV ((w.setCell ⟨g,o,none⟩ u).setCell ⟨g,o+1,none⟩ v) K z e:=by
 obtain⟨xs,h1,h2⟩:=h;refine⟨xs,⟨h1.len,h1.cap,h1.bnd,h1.sml,fun hx=>?_,h1.u⟩,h2⟩
 have:=ho (by rw[h1.len] at hx;exact hx)
 exact((h1.rd.ah ⟨g,o,none⟩ u this).ah ⟨g,o+1,none⟩ v this) hx
theorem EV.ez(w:World)(K:Nat):EV w K 0 ez:=⟨[],⟨rfl,Jr _,Jz _,Jz _,Rd.nil,fun j=>by simp[gx]⟩,rfl,Jz _⟩
theorem uD(h:PA w K p n nc es zs)(hn:n<=1000000)(i:Nat)(hi:i<=1000000):
  Calls Tryz.prog 138 #[.slice p n nc,.int .i64 i] w fun r w'=>∃f:Ent,r=.returned (.agg #[.bool f.s,.slice f.p f.n f.c])/\EV w' K (gx zs i) f/\Below w.heap.size w w':=by
 have hel:=h.el;have hzl:=h.zl;have hal:=ag (o:=.cells #[.bool false,.slice none 0 0] 50) (Jt w.heap.size w);have hR0:Bx (w.alloc (.cells #[.bool false,.slice none 0 0] 50)) w.heap.size (.bool false) (.slice none 0 0):=Bx.new _ _ _ rfl;have hw:=h.below hal;rcases Ju i n with hlt|hge
 ·obtain⟨b,o,hp,hc⟩:=hw.pl (by omega)
  obtain⟨b',o',hp',hc'⟩:=h.pl (by omega)
  rw[hp] at hp'
  cases hp'
  have sb:b<w.heap.size:=block_lt_of_cell (hc' i (by omega)).1
  subst hp;obtain⟨c0,c1⟩:=hc i (by omega)
  have hv:=hw.ev i hlt;obtain⟨r0,r1,f0,f1⟩:=hR0;clear hc hc';go_enter Tryz.func138,Tryz.ntmps138;go_wp2;refine bodyPost_ret (v:=.agg #[.bool (ge es i).s,.slice (ge es i).p (ge es i).n (ge es i).c]) (by simp[results,Tryz.results138,go_sem,r0,r1]) rfl ⟨ge es i,rfl,?_,ag (Jt _ _)⟩
  exact(h.ev i hlt).below (ag (Jt _ _))
 ·obtain⟨r0,r1,f0,f1⟩:=hR0
  have hz:Hid (gx zs i=0):=ak zs n (by omega) i hge
  go_enter Tryz.func138,Tryz.ntmps138;go_wp2;refine bodyPost_ret (v:=.agg #[.bool false,.slice none 0 0]) (by simp[results,Tryz.results138,go_sem,r0,r1]) rfl ⟨ez,rfl,?_,ag (Jt _ _)⟩
  rw[hz.out];exact EV.ez _ K
def CoI(op:Int->Int->Int)(K g n k:Nat)(zs ys:List Int)(W0 wr:World):Prop:=
 ∃es,bA wr g 50 es/\es.length=n/\(∀j,j<k->NV (g+1) wr K (op (gx zs j) (gx ys j)) (ge es j))/\Below g W0 wr
def pz(op:Int->Int->Int)(zs ys:List Int):List Int:=(List.range (max zs.length ys.length)).map fun i=>op (gx zs i) (gx ys i)
variable {L mc:Nat} {fs:List Ent}
theorem xX(h:PA w K p n nc es zs)(k:PA w L q m mc fs ys)(hn:n<=1000000)(hm:m<=1000000)(hM:M<=1000)(J:Nat)(hE:∀args w',Sem.run Tryz.prog (callFunc J args) w'=.ok (.enter J args) w')(op:Int->Int->Int)
  (hJ:∀w' x y e f,EV w' K x e->EV w' L y f->Calls Tryz.prog J #[.agg #[.bool e.s,.slice e.p e.n e.c],.agg #[.bool f.s,.slice f.p f.n f.c]] w' fun r w''=>∃u:Ent,r=.returned (.agg #[.bool u.s,.slice u.p u.n u.c])/\NV w'.heap.size w'' M (op x y) u/\Below w'.heap.size w' w''):
  Calls Tryz.prog 81 #[.slice p n nc,.slice q m mc,.func (.func J) #[] #[]] w (PnP (tr (pz op (tr zs) (tr ys))) M w):=by
 have htl:=aj zs;have htl':=aj ys;have hzl:=h.zl;have hyl:=k.zl;have HJ:=(show Hid _ from hJ)
 clear hJ;go_enter Tryz.func81,Tryz.ntmps81;go_wp2_with fail;refine(cN K p n nc es zs _ h hn).mono ?_;rintro e w1 ⟨rfl,hb1⟩;go_wp2_with fail;refine(cN L q m mc fs ys _ (k.below hb1) hm).mono ?_;rintro e w2 ⟨rfl,hb2⟩;have h2:=((h.below hb1).below hb2).trim;have k2:=((k.below hb1).below hb2).trim;have hb:=ae hb1 hb2;have HL:Hid ((tr zs).length=ad zs/\(tr ys).length=ad ys):=⟨af zs,af ys⟩;have ha:ad zs<=1000000:=by omega
 have hc:ad ys<=1000000:=by omega
 clear hb1 hb2 h k;generalize tr zs=A at *
 generalize tr ys=B at *
 generalize ad zs=a at *
 generalize ad ys=b at *
 generalize es.take a=ea at *
 generalize fs.take b=eb at *
 clear htl htl' hzl hyl hn hm;have hmx:Hid (∃N:Nat,N=max a b/\max (a:Int) (b:Int)=(N:Int)/\N<=1000000):=⟨max a b,rfl,by omega,by omega⟩
 obtain⟨N,hN1,hN2,hN3⟩:=hmx.out;have hmk:=mg N (by omega)
 have HN:Hid (N=max a b):=hN1;clear hmx hN1;go_wp2_with fail;have hR0:=bA.new w2 50 (ezs N);have hW0:Below w2.heap.size w2 (w2.alloc (.cells (ca2 (ezs N)) 50)):=(Jt _ _).alloc (Jr _) _;have hs0:w2.heap.size+1<=(w2.alloc (.cells (ca2 (ezs N)) 50)).heap.size:=by simp
 generalize w2.alloc (.cells (ca2 (ezs N)) 50)=W0 at *
 clear hmk;go_loopw [8,21] (fun iv kv wr=>∃j:Nat,j<=N/\kv=.int .i64 j/\Hid (CoI op M w2.heap.size N j A B W0 wr)) (fun _ kv _=>N-(intOf kv).toNat)
 case atStart=>exact⟨0,Jz _,by go_num,ezs N,hR0,bL N,fun j hj=>by omega,Jt _ _⟩
 case round=>
  obtain⟨j,hj,rfl,H⟩:=hrel;rcases Ju j N with hlt|hge
  ·have hBw:Below w2.heap.size w2 wr:=by
    obtain⟨es',hR,hel,hev,hB⟩:=H.out;exact hW0.trans hB
   go_wp2_with fail;refine(uD (h2.below hBw) ha j (by omega)).mono ?_
   rintro r w3 ⟨e1,rfl,hv1,hb3⟩;go_wp2_with fail;refine(uD ((k2.below hBw).below hb3) hc j (by omega)).mono ?_
   rintro r w4 ⟨e2,rfl,hv2,hb4⟩;go_wp2_with fail;refine(HJ.out _ _ _ e1 e2 (hv1.below hb4) hv2).mono ?_;rintro r w5 ⟨f,rfl,hO,hb5⟩;have hb2':=ae (ae hb3 hb4) hb5;obtain⟨es',hR,hel,hev,hB⟩:=H.out;have hR1:=hR.below hb2' hR.lt;obtain⟨d0,d1⟩:=hR1.cell j (by omega)
   have f0:=hR1.frozen (j*2);have f1:=hR1.frozen (j*2+1);have hsz:w2.heap.size+1<=w4.heap.size:=by have h1:=hB.size;have h3:=hb3.size;have h4:=hb4.size;omega
   have HI:Hid (NV (w2.heap.size+1) w5 M (op (gx A j) (gx B j)) f/\bA w5 w2.heap.size 50 es'/\es'.length=N/\(∀i,i<j->NV (w2.heap.size+1) w5 M (op (gx A i) (gx B i)) (ge es' i))/\Below w2.heap.size W0 w5):=⟨hO.mono hsz,hR1,hel,fun i hi=>(hev i hi).below hb2',hB.trans (hb2'.mono (by have:=hBw.size;omega))⟩
   clear hO hb3 hb4 hb5 hb2' hR hel hev hB hR1 hv1 hv2 H;go_wp2;go_roundw
   case rel=>
    obtain⟨hO,hR,hel,hev,hB⟩:=HI.out;refine⟨j+1,by omega,by go_num,es'.set j f,hR.set j f (by omega),by simpa using hel,fun i hi=>?_,?_⟩
    ·rcases Ju i j with h'|h'
     ·rw[cG _ _ _ _ (by omega)]
      exact(hev i h').b8 (by omega) _ _
     ·obtain rfl:i=j:=by omega
      rw[cR _ _ _ (by omega)]
      exact hO.b8 (by omega) _ _
    ·exact(hB.setCell (p:=⟨w2.heap.size,j*2,none⟩) (Jr _) _).setCell (p:=⟨w2.heap.size,j*2+1,none⟩) (Jr _) _
   case measure=>simp[intOf];omega
  ·obtain rfl:j=N:=by omega
   obtain⟨es',hR,hel,hev,hB⟩:=H.out;have hpl:(pz op A B).length=j:=by rw[pz,List.length_map,List.length_range,HL.out.1,HL.out.2];exact HN.out.symm
   have hgx:∀i,i<j->gx (pz op A B) i=op (gx A i) (gx B i):=fun i hi=>by
    have hi':i<(pz op A B).length:=by omega
    rw[bZ _ _ hi'];simp[pz]
   have hPA:PA wr M (some ⟨w2.heap.size,0,none⟩) j j es' (pz op A B):=⟨hel,hpl,Jr _,by unfold maxLen;omega,fun e=>by simp at e,hR.pl,fun i hi=>by rw[hgx i hi];exact(hev i hi).ev hM⟩
   have HI:Hid (bA wr w2.heap.size 50 es'/\es'.length=j/\(∀i,i<j->NV (w2.heap.size+1) wr M (gx (pz op A B) i) (ge es' i))/\Below w2.heap.size w2 wr):=⟨hR,hel,fun i hi=>by rw[hgx i hi];exact hev i hi,hW0.trans hB⟩
   have HP:Hid ((pz op A B).length=j):=hpl;clear H hR hel hev hB hge hj hgx hpl;go_wp2_with fail;refine(cN M _ _ _ es' (pz op A B) _ hPA (by omega)).mono ?_
   rintro e w3 ⟨rfl,hb3⟩;clear hPA;go_wp2;go_ret;obtain⟨hR,hel,hev,hB⟩:=HI.out;have htl:=aj (pz op A B);have hp:=HP.out;have hs2:=hb.size;refine⟨_,_,es'.take (ad (pz op A B)),rfl,⟨by simp;omega,af _,aM _,(hR.below hb3 hR.lt).pl.take _,fun a ha=>by cases ha;exact hs2,fun i hi=>?_⟩,ae hb (ae hB hb3)⟩
   rw[aN,e_ _ _ _ hi];exact((hev i (by omega)).below hb3).mono (by omega)
theorem Hg(h:EV w K x e)(k:EV w L y f):Calls Tryz.prog 96 #[.agg #[.bool e.s,.slice e.p e.n e.c],.agg #[.bool f.s,.slice f.p f.n f.c]] w fun r w'=>∃u:Ent,r=.returned (.agg #[.bool u.s,.slice u.p u.n u.c])/\NV w.heap.size w' (K+L+1) (x+y) u/\Below w.heap.size w w':=by
 obtain⟨xs,h1,rfl,h3⟩:=h;obtain⟨ys,k1,rfl,k3⟩:=k;refine(ti e.s f.s e.p f.p e.n e.c f.n f.c xs ys w h1 k1).mono ?_;rintro r w' ⟨s',p',n',zs,g1,g2,g3,g4⟩;exact⟨⟨s',p',n',n'⟩,g1,⟨zs,g2,rfl,by show n'<=_;omega⟩,g4⟩
end Go.Proofs.YtdjjlghlcffflaaGreatDoor
