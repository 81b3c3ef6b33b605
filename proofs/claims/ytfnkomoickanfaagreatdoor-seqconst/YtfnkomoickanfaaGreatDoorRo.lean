/- Own. -/
import Derived.Test.YtfnkomoickanfaaGreatDoorD0
set_option linter.unusedVariables false
set_option linter.unusedSimpArgs false
set_option maxHeartbeats 8000000
set_option maxRecDepth 100000
namespace Go.Proofs.YtfnkomoickanfaaGreatDoor
open Go.RowKit
theorem Ck(a:Int)(w:World)(h0:0<a)(h1:a≤9223372036854775808):
  Calls Tryz.prog 21 #[.int .i64 (-a)] w (fc 4 (-a) w):=by
 obtain⟨i0,hi,hzz⟩:=Option.map_eq_some_iff.1 fM
 simp only[Prod.mk.injEq] at hzz
 obtain⟨hz0,hz1,hz2⟩:=hzz
 have HI:Hid (Tryz.prog.info? 3=some i0∧i0.zero=some (.int .i64 0)∧i0.size=1∧i0.bytes=8):=⟨hi,hz0,hz1,hz2⟩
 clear hi hz0 hz1 hz2
 have hcmp:-a<0:=by omega
 go_enter Tryz.func21,Tryz.ntmps21
 go_wp2
 have hb2:Bx (w.alloc (.cells #[.bool false,.slice none 0 0] 43)) w.heap.size (.bool false) (.slice none 0 0):=Bx.new _ _ _ rfl
 have hbw:Below w.heap.size w (w.alloc (.cells #[.bool false,.slice none 0 0] 43)):=(Below.refl _ _).alloc (Nat.le_refl _) _
 have hsz:(w.alloc (.cells #[.bool false,.slice none 0 0] 43)).heap.size=w.heap.size+1:=by simp
 generalize (w.alloc (.cells #[.bool false,.slice none 0 0] 43))=W at *
 have HS:Hid (W.heap.size=w.heap.size+1):=hsz
 clear hsz
 go_loopw [0,4,5] (fun nv dv kv wr=>∃(k:Nat) (m:Int) (ds:List Int),nv=.int .i64 (-m)∧0≤m∧m≤9223372036854775808∧ds.length=k∧Hid (a=vd ds+pd k*m∧U16 ds∧wr.ownsRow W.heap.size 3 1 dv k (ds.map (Value.int .i64))∧Below W.heap.size W wr)) (fun nv _ _ _=>(intOf nv).natAbs)
 case atStart=>exact⟨0,a,[],rfl,by omega,by omega,rfl,by simp[vd,jU],im,World.ownsRow_nil _ _ _ _,Below.refl _ _⟩
 case round=>
  obtain⟨k,m,ds,rfl,hm0,hm1,hkl,H⟩:=hrel
  have hBr:=H.out.2.2.2
  have HV:Hid (a=vd ds+pd k*m∧U16 ds):=⟨H.out.1,H.out.2.1⟩
  have HO:Hid (wr.ownsRow W.heap.size 3 1 u4 k (ds.map (Value.int .i64))):=H.out.2.2.1
  clear H
  have hb2r:=hb2.later hBr
  have HK:Hid (0<m→k<4):=fun hm=>by
   rcases Nat.lt_or_ge k 4 with h|h
   ·exact h
   ·exfalso
    have e1:=ct h
    have e2:pd 4=18446744073709551616:=rfl
    have e3:=ay HV.out.2
    have e4:pd k*1≤pd k*m:=Int.mul_le_mul_of_nonneg_left (by omega) (Int.le_of_lt (cB k))
    have e5:=HV.out.1
    omega
  have HL:Hid (ds.length=k):=hkl
  by_cases hlt:0<m
  ·have hk4:=HK.out hlt
   obtain⟨hi,hz0,hz1,hz2⟩:=HI.out
   clear hkl
   have q1:(-m).tmod 65536 = -(m%65536):=by rw[Int.neg_tmod,Int.tmod_eq_emod_of_nonneg (by omega)]
   have q2:(-m).tdiv 65536 = -(m/65536):=by rw[Int.neg_tdiv,Int.tdiv_eq_ediv_of_nonneg (by omega)]
   have q5:(-m != 0)=true:=by rw[bne_iff_ne];omega
   have hkl:=HL.out
   clear hkl
   by_cases hm0:m%65536=0
   ·have q6:¬-(m%65536)<0:=by omega
    have q7:-(m%65536)=0:=by omega
    go_wp2_with (refine wpList_append_lies _ rfl _ _ 41 rfl W.heap.size 3 i0 (.int .i64 0) 1 8 Tryz.underlying41 hi hz0 hz1 hz2 rfl (by decide) u4 k (ds.map (Value.int .i64)) rfl (HO.out.alloc _) ⟨wr.heap.size,0,none⟩ 1 1 [.int .i64 (0)] rfl rfl ?_ (fun x hx=>by simp at hx;subst hx;rfl) (by decide) (by unfold maxLen;omega) (by omega) (by have:=hBr.size;simp;omega) _ rfl ?_;exact World.news_of_block (heap_alloc_new wr _);intro g cap w3 hown3 hgrow3 hat3 hlt3;have hB3:Below W.heap.size W w3:=(cY hBr).grown hgrow3 (by have:=hBr.size;simp;omega) (fun q hq=>(HO.out.lt q hq).1))
    refine⟨⟨k+1,m/65536,ds++[0],by go_num,by omega,by omega,by have:=HL.out;simp;omega,?_,cg HV.out.2 (cQ (by omega)),?_,hB3⟩,by simp[intOf];omega⟩
    ·rw[b8,cJ,bu,HL.out,HV.out.1]
     have:=gP (pd k) m
     rw[hm0] at this;omega
    ·rw[List.map_append]
     exact hown3
   ·have q6:-(m%65536)<0:=by omega
    go_wp2_with (refine wpList_append_lies _ rfl _ _ 41 rfl W.heap.size 3 i0 (.int .i64 0) 1 8 Tryz.underlying41 hi hz0 hz1 hz2 rfl (by decide) u4 k (ds.map (Value.int .i64)) rfl (HO.out.alloc _) ⟨wr.heap.size,0,none⟩ 1 1 [.int .i64 (m%65536)] rfl rfl ?_ (fun x hx=>by simp at hx;subst hx;rfl) (by decide) (by unfold maxLen;omega) (by omega) (by have:=hBr.size;simp;omega) _ rfl ?_;exact World.news_of_block (heap_alloc_new wr _);intro g cap w3 hown3 hgrow3 hat3 hlt3;have hB3:Below W.heap.size W w3:=(cY hBr).grown hgrow3 (by have:=hBr.size;simp;omega) (fun q hq=>(HO.out.lt q hq).1))
    refine⟨⟨k+1,m/65536,ds++[m%65536],by go_num,by omega,by omega,by have:=HL.out;simp;omega,?_,cg HV.out.2 (cQ (by omega)),?_,hB3⟩,by simp[intOf];omega⟩
    ·rw[b8,cJ,bu,HL.out,HV.out.1]
     have:=gP (pd k) m
     omega
    ·rw[List.map_append]
     exact hown3
  ·obtain rfl:m=0:=by omega
   have hform:∃q cap,u4=.slice q k cap∧k≤cap∧cap≤maxLen∧Rd wr q .i64 ds∧az W.heap.size q:=by
    have hown:=HO.out
    rcases hown.2 with ⟨h1,h2⟩|⟨g,cap,cur,h1,hbg,_,h4,h5,_⟩
    ·refine⟨none,0,by rw[h1,h2],by omega,Nat.zero_le _,?_,c9⟩
     have:ds=[]:=List.eq_nil_of_length_eq_zero (by omega)
     rw[this];exact Rd.nil
    ·subst h1
     exact⟨_,cap,rfl,h4,h5,fX hown,aL hbg⟩
   obtain⟨q,cap,rfl,hq1,hq2,hq3,hq4⟩:=hform
   have hva:a=vd ds:=by have:=HV.out.1;omega
   have HA:Hid (a=vd ds):=hva
   clear hva
   have hq2':=hq2
   unfold maxLen at hq2'
   go_wp2_with fail
   refine(bE true q k cap ds _ hkl hq1 hq2 hq3).mono ?_
   rintro e w4 ⟨rfl,hb4⟩
   obtain⟨z0,z1,z2,z3⟩:=bM hb4 hb2r.c0 hb2r.c1 hb2r.f0 hb2r.f1
   go_wp2
   have hsW:=HS.out
   have htl:ad ds≤4:=by
    rcases Nat.lt_or_ge 4 (ad ds) with h|h
    ·exfalso
     have e1:=cn HV.out.2 (by omega)
     have e2:pd 4≤pd (ad ds-1):=ct (by omega)
     have e3:pd 4=18446744073709551616:=rfl
     have e5:=HA.out
     omega
    ·exact h
   refine bodyPost_ret (v:=.agg #[.bool (nsg true ds),.slice q (ad ds) (ad ds)]) (by simp[results,Tryz.results21,go_sem,z0,z1]) rfl ?_
   exact rY hbw (Nat.le_refl _) (by omega) hBr hb4 hq3 hq4 HV.out.2 (by omega) (by rw[HA.out];rfl) htl
theorem Cl(a:Int)(w:World)(h0:0≤a)(h1:a≤9223372036854775807):
  Calls Tryz.prog 21 #[.int .i64 (a)] w (fc 4 (a) w):=by
 obtain⟨i0,hi,hzz⟩:=Option.map_eq_some_iff.1 fM
 simp only[Prod.mk.injEq] at hzz
 obtain⟨hz0,hz1,hz2⟩:=hzz
 have HI:Hid (Tryz.prog.info? 3=some i0∧i0.zero=some (.int .i64 0)∧i0.size=1∧i0.bytes=8):=⟨hi,hz0,hz1,hz2⟩
 clear hi hz0 hz1 hz2
 have hcmp:¬a<0:=by omega
 go_enter Tryz.func21,Tryz.ntmps21
 go_wp2
 have hb2:Bx (w.alloc (.cells #[.bool false,.slice none 0 0] 43)) w.heap.size (.bool false) (.slice none 0 0):=Bx.new _ _ _ rfl
 have hbw:Below w.heap.size w (w.alloc (.cells #[.bool false,.slice none 0 0] 43)):=(Below.refl _ _).alloc (Nat.le_refl _) _
 have hsz:(w.alloc (.cells #[.bool false,.slice none 0 0] 43)).heap.size=w.heap.size+1:=by simp
 generalize (w.alloc (.cells #[.bool false,.slice none 0 0] 43))=W at *
 have HS:Hid (W.heap.size=w.heap.size+1):=hsz
 clear hsz
 go_loopw [0,4,5] (fun nv dv kv wr=>∃(k:Nat) (m:Int) (ds:List Int),nv=.int .i64 (m)∧0≤m∧m≤9223372036854775808∧ds.length=k∧Hid (a=vd ds+pd k*m∧U16 ds∧wr.ownsRow W.heap.size 3 1 dv k (ds.map (Value.int .i64))∧Below W.heap.size W wr)) (fun nv _ _ _=>(intOf nv).natAbs)
 case atStart=>exact⟨0,a,[],rfl,by omega,by omega,rfl,by simp[vd,jU],im,World.ownsRow_nil _ _ _ _,Below.refl _ _⟩
 case round=>
  obtain⟨k,m,ds,rfl,hm0,hm1,hkl,H⟩:=hrel
  have hBr:=H.out.2.2.2
  have HV:Hid (a=vd ds+pd k*m∧U16 ds):=⟨H.out.1,H.out.2.1⟩
  have HO:Hid (wr.ownsRow W.heap.size 3 1 u4 k (ds.map (Value.int .i64))):=H.out.2.2.1
  clear H
  have hb2r:=hb2.later hBr
  have HK:Hid (0<m→k<4):=fun hm=>by
   rcases Nat.lt_or_ge k 4 with h|h
   ·exact h
   ·exfalso
    have e1:=ct h
    have e2:pd 4=18446744073709551616:=rfl
    have e3:=ay HV.out.2
    have e4:pd k*1≤pd k*m:=Int.mul_le_mul_of_nonneg_left (by omega) (Int.le_of_lt (cB k))
    have e5:=HV.out.1
    omega
  have HL:Hid (ds.length=k):=hkl
  by_cases hlt:0<m
  ·have hk4:=HK.out hlt
   obtain⟨hi,hz0,hz1,hz2⟩:=HI.out
   clear hkl
   have q1:m.tmod 65536=m%65536:=Int.tmod_eq_emod_of_nonneg (by omega)
   have q2:m.tdiv 65536=m/65536:=Int.tdiv_eq_ediv_of_nonneg (by omega)
   have q5:(m != 0)=true:=by rw[bne_iff_ne];omega
   have hkl:=HL.out
   clear hkl
   ·have q6:¬m%65536<0:=by omega
    go_wp2_with (refine wpList_append_lies _ rfl _ _ 41 rfl W.heap.size 3 i0 (.int .i64 0) 1 8 Tryz.underlying41 hi hz0 hz1 hz2 rfl (by decide) u4 k (ds.map (Value.int .i64)) rfl (HO.out.alloc _) ⟨wr.heap.size,0,none⟩ 1 1 [.int .i64 (m%65536)] rfl rfl ?_ (fun x hx=>by simp at hx;subst hx;rfl) (by decide) (by unfold maxLen;omega) (by omega) (by have:=hBr.size;simp;omega) _ rfl ?_;exact World.news_of_block (heap_alloc_new wr _);intro g cap w3 hown3 hgrow3 hat3 hlt3;have hB3:Below W.heap.size W w3:=(cY hBr).grown hgrow3 (by have:=hBr.size;simp;omega) (fun q hq=>(HO.out.lt q hq).1))
    refine⟨⟨k+1,m/65536,ds++[m%65536],by go_num,by omega,by omega,by have:=HL.out;simp;omega,?_,cg HV.out.2 (cQ (by omega)),?_,hB3⟩,by simp[intOf];omega⟩
    ·rw[b8,cJ,bu,HL.out,HV.out.1]
     have:=gP (pd k) m
     omega
    ·rw[List.map_append]
     exact hown3
  ·obtain rfl:m=0:=by omega
   have hform:∃q cap,u4=.slice q k cap∧k≤cap∧cap≤maxLen∧Rd wr q .i64 ds∧az W.heap.size q:=by
    have hown:=HO.out
    rcases hown.2 with ⟨h1,h2⟩|⟨g,cap,cur,h1,hbg,_,h4,h5,_⟩
    ·refine⟨none,0,by rw[h1,h2],by omega,Nat.zero_le _,?_,c9⟩
     have:ds=[]:=List.eq_nil_of_length_eq_zero (by omega)
     rw[this];exact Rd.nil
    ·subst h1
     exact⟨_,cap,rfl,h4,h5,fX hown,aL hbg⟩
   obtain⟨q,cap,rfl,hq1,hq2,hq3,hq4⟩:=hform
   have hva:a=vd ds:=by have:=HV.out.1;omega
   have HA:Hid (a=vd ds):=hva
   clear hva
   have hq2':=hq2
   unfold maxLen at hq2'
   go_wp2_with fail
   refine(bE false q k cap ds _ hkl hq1 hq2 hq3).mono ?_
   rintro e w4 ⟨rfl,hb4⟩
   obtain⟨z0,z1,z2,z3⟩:=bM hb4 hb2r.c0 hb2r.c1 hb2r.f0 hb2r.f1
   go_wp2
   have hsW:=HS.out
   have htl:ad ds≤4:=by
    rcases Nat.lt_or_ge 4 (ad ds) with h|h
    ·exfalso
     have e1:=cn HV.out.2 (by omega)
     have e2:pd 4≤pd (ad ds-1):=ct (by omega)
     have e3:pd 4=18446744073709551616:=rfl
     have e5:=HA.out
     omega
    ·exact h
   refine bodyPost_ret (v:=.agg #[.bool (nsg false ds),.slice q (ad ds) (ad ds)]) (by simp[results,Tryz.results21,go_sem,z0,z1]) rfl ?_
   exact rY hbw (Nat.le_refl _) (by omega) hBr hb4 hq3 hq4 HV.out.2 (by omega) (by rw[HA.out];rfl) htl
theorem eg(z:Int)(w:World)(h0:-9223372036854775808≤z)(h1:z≤9223372036854775807):Calls Tryz.prog 21 #[.int .i64 z] w (fc 4 z w):=by
 by_cases h:z<0
 ·have:=Ck (-z) w (by omega) (by omega)
  rwa [Int.neg_neg] at this
 ·exact Cl z w (by omega) h1
theorem Rd.grown{w w':World}{p:Option Addr}{k:IntKind}{xs:List Int}{row:Option Nat}(h:Rd w p k xs)(hg:w.grownBy w' row)(hne:0<xs.length→∀a,p=some a→some a.block≠row):Rd w' p k xs:=fun hx=>h.kept hg (hne hx) hx
theorem RE.grown{w w':World}{N:Nat}{z:Int}{e:Ent}{row:Option Nat}(h:RE w N z e)(hg:w.grownBy w' row)(hne:0<e.n→∀a,e.p=some a→some a.block≠row):RE w' N z e:=by
 obtain⟨⟨ds,h1,h2,h3⟩,h4⟩:=h
 exact⟨⟨ds,⟨h1.len,h1.rd.grown hg (by rw[h1.len];exact hne),h1.u,h1.nrm,h1.sg,h1.sml⟩,h2,h3⟩,h4⟩
theorem RE.lt{w:World}{N:Nat}{z:Int}{e:Ent}(h:RE w N z e):0<e.n→∀a,e.p=some a→a.block<w.heap.size:=by
 obtain⟨⟨ds,h1,h2,h3⟩,h4⟩:=h
 exact h1.lt
structure LR(base:Nat)(w:World)(N:Nat)(v:Value)(es:List Ent)(zs:List Int):Prop where
 own:w.ownsRow base 43 2 v es.length (fl es)
 zl:zs.length=es.length
 ev:∀j,j<es.length→RE w N (gx zs j) (ge es j)
 off:∀j,j<es.length→0<(ge es j).n→∀a,(ge es j).p=some a→some a.block≠v.ownBlock
theorem LR.nil(base:Nat)(w:World)(N:Nat):LR base w N (.slice none 0 0) [] []:=⟨World.ownsRow_nil _ _ _ _,rfl,fun j hj=>by simp at hj,fun j hj=>by simp at hj⟩
theorem LR.app{base:Nat}{wr w1 w3:World}{N:Nat}{v:Value}{es:List Ent}{zs:List Int}{z:Int}{e:Ent}{o:Obj}{g cap:Nat}(h:LR base wr N v es zs)(hb1:Below wr.heap.size wr w1)(hE:RE w1 N z e)(hF:az wr.heap.size e.p)
  (hown:w3.ownsRow base 43 2 (.slice (some ⟨g,0,none⟩) (es.length+1) cap) (es.length+1) (fl es++[.bool e.s,.slice e.p e.n e.c])) (hgrow:(w1.alloc o).grownBy w3 v.ownBlock) (hat:v.ownBlock=some g∨g=(w1.alloc o).heap.size):
  LR base w3 N (.slice (some ⟨g,0,none⟩) (es.length+1) cap) (es++[e]) (zs++[z]):=by
 have hal:Below w1.heap.size w1 (w1.alloc o):=(Below.refl _ _).alloc (Nat.le_refl _) o
 have hs1:=hb1.size
 have hs2:=hal.size
 have old:∀j,j<es.length→RE (w1.alloc o) N (gx zs j) (ge es j):=fun j hj=>((h.ev j hj).below hb1).below hal
 have new:RE (w1.alloc o) N z e:=hE.below hal
 have noff:0<e.n→∀a,e.p=some a→some a.block≠v.ownBlock:=fun _ a ha hq=>by
  have h1:=(h.own.lt a.block hq.symm).2
  have h2:=hF a ha
  omega
 refine⟨by rw[List.length_append,uM];exact hown,by simp[h.zl],fun j hj=>?_,fun j hj hn a ha hq=>?_⟩
 ·rcases Nat.lt_or_ge j es.length with hlt|hge
  ·rw[bP _ _ _ hlt,cO _ _ _ (by rw[h.zl];exact hlt)]
   exact(old j hlt).grown hgrow (h.off j hlt)
  ·have:j=es.length:=by simp at hj;omega
   subst this
   have e1:gx (zs++[z]) es.length=z:=by rw[←h.zl,b_ _ _ _ (Nat.le_refl _),Nat.sub_self];rfl
   rw[ib,e1]
   exact new.grown hgrow noff
 ·have hq':a.block=g:=Option.some.inj hq
  rcases Nat.lt_or_ge j es.length with hlt|hge
  ·rw[bP _ _ _ hlt] at hn ha
   rcases hat with h1|h1
   ·exact h.off j hlt hn a ha (by rw[h1,hq'])
   ·have:=(old j hlt).lt hn a ha
    omega
  ·have:j=es.length:=by simp at hj;omega
   subst this
   rw[ib] at hn ha
   rcases hat with h1|h1
   ·exact noff hn a ha (by rw[h1,hq'])
   ·have:=new.lt hn a ha
    omega
theorem LR.pr{base:Nat}{w:World}{N:Nat}{v:Value}{es:List Ent}{zs:List Int}(h:LR base w N v es zs):∃q cap,v=.slice q es.length cap∧PR w N q es.length cap es zs∧az base q:=by
 obtain⟨q,cap,h1,h2,h3,h4,-⟩:=ky h.own
 have ho:=h.own
 rw[h1] at ho
 exact⟨q,cap,h1,⟨rfl,h.zl,h2,h3,nC ho,h.ev⟩,h4⟩
theorem fN:(Tryz.prog.info? 43).map (fun i=>(i.zero,i.size,i.bytes))=some (some (.agg #[.bool false,.slice none 0 0]),2,32):=by kernel_rfl
theorem Da{base:Nat}{wr w1 w3:World}{N:Nat}{v:Value}{es:List Ent}{zs:List Int}{z:Int}{s:Bool}{p:Option Addr}{n k:Nat}{o:Obj}{g cap:Nat}(hk:es.length=k)(h:LR base wr N v es zs)(hb1:Below wr.heap.size wr w1)(hE:RE w1 N z ⟨s,p,n,n⟩)(hF:az wr.heap.size p)
  (hown:w3.ownsRow base 43 2 (.slice (some ⟨g,0,none⟩) (k+1) cap) (k+1) (fl es++[.bool s,.slice p n n])) (hgrow:(w1.alloc o).grownBy w3 v.ownBlock) (hat:v.ownBlock=some g∨g=(w1.alloc o).heap.size):
  LR base w3 N (.slice (some ⟨g,0,none⟩) (k+1) cap) (es++[⟨s,p,n,n⟩]) (zs++[z]):=by
 subst hk
 exact h.app hb1 hE hF hown hgrow hat
def PrP(zs:List Int)(N:Nat)(w:World)(e:Ending)(w':World):Prop:=
 ∃p n es,e=.returned (.slice p n n)∧PR w' N p n n es zs∧az w.heap.size p∧ad zs=n∧Below w.heap.size w w'
def PrF(zs:List Int)(N:Nat)(w:World)(e:Ending)(w':World):Prop:=
 ∃p n es,e=.returned (.slice p n n)∧PR w' N p n n es zs∧az w.heap.size p∧ad zs=n∧(∀j,j<n→0<(ge es j).n→az w.heap.size (ge es j).p)∧Below w.heap.size w w'
theorem PrF.any{zs:List Int}{N:Nat}{w:World}{e:Ending}{w':World}(h:PrF zs N w e w'):PrP zs N w e w':=by
 obtain⟨q,m,es,h1,h2,h3,h4,-,h5⟩:=h
 exact⟨q,m,es,h1,h2,h3,h4,h5⟩
structure Vr(w:World)(g:Nat)(s:Bool)(p:Option Addr)(n nc F:Nat)(xs:List Int):Prop where
 b:Bx w g (.bool s) (.slice p n nc)
 a:AI w p n nc xs
 f:az F p
def zy(s:Bool)(xs:List Int)(w:World)(e:Ending)(w':World):Prop:=
 ∃s' p' n',e=.returned (.agg #[.bool s',.slice p' n' n'])∧RN w' s' p' n' (tr (spl xs))∧s'=nsg s (spl xs)∧az w.heap.size p'∧Below w.heap.size w w'
theorem zA(s:Bool)(p:Option Addr)(n nc:Nat)(xs:List Int)(w:World)(hA:AI w p n nc xs):
  Calls Tryz.prog 50 #[.agg #[.bool s,.slice p n nc]] w (zy s xs w):=by
 obtain⟨i0,hi,hzz⟩:=Option.map_eq_some_iff.1 fM
 simp only[Prod.mk.injEq] at hzz
 obtain⟨hz0,hz1,hz2⟩:=hzz
 have HI:Hid (Tryz.prog.info? 3=some i0∧i0.zero=some (.int .i64 0)∧i0.size=1∧i0.bytes=8):=⟨hi,hz0,hz1,hz2⟩
 clear hi hz0 hz1 hz2
 have hl:=hA.len
 have hs:=hA.sml
 go_enter Tryz.func50,Tryz.ntmps50
 go_wp2
 have hb1:Bx ((w.alloc (.cells #[.bool s,.slice p n nc] 24)).alloc (.cells #[.bool false,.slice none 0 0] 43)) w.heap.size (.bool s) (.slice p n nc):=(Bx.new _ _ _ rfl).alloc _
 have hb2:Bx ((w.alloc (.cells #[.bool s,.slice p n nc] 24)).alloc (.cells #[.bool false,.slice none 0 0] 43)) (w.heap.size+1) (.bool false) (.slice none 0 0):=Bx.new _ _ _ (World.size_alloc ..).symm
 have hbw:Below w.heap.size w ((w.alloc (.cells #[.bool s,.slice p n nc] 24)).alloc (.cells #[.bool false,.slice none 0 0] 43)):=((Below.refl _ _).alloc (Nat.le_refl _) _).alloc (by simp) _
 have hsz:((w.alloc (.cells #[.bool s,.slice p n nc] 24)).alloc (.cells #[.bool false,.slice none 0 0] 43)).heap.size=w.heap.size+1+1:=by simp
 generalize ((w.alloc (.cells #[.bool s,.slice p n nc] 24)).alloc (.cells #[.bool false,.slice none 0 0] 43))=W at *
 have HS:Hid (W.heap.size=w.heap.size+1+1):=hsz
 clear hsz
 have hAW:=hA.below hbw
 go_loopw [3,4] (fun dv iv wr=>∃(k:Nat),k≤n∧iv=.int .i64 k∧Hid (wr.ownsRow W.heap.size 3 1 dv (2*k) ((spl (xs.take k)).map (Value.int .i64))∧Below W.heap.size W wr)) (fun _ iv _=>n-(intOf iv).toNat)
 case atStart=>exact⟨0,Nat.zero_le _,rfl,World.ownsRow_nil _ _ _ _,Below.refl _ _⟩
 case round=>
  obtain⟨k,hk,rfl,H⟩:=hrel
  have hBr:=H.out.2
  have hb1r:=hb1.later hBr
  have hb2r:=hb2.later hBr
  have k0:=hb1r.c0
  have k1:=hb1r.c1
  by_cases hlt:k<n
  ·obtain⟨b,off,rfl,hcell⟩:=(hAW.rd.below hBr) (by omega)
   have hck:=hcell k (by omega)
   obtain⟨x0,x1⟩:=hA.u k
   have hltI:(k:Int)<(n:Int):=by omega
   have q1:(gx xs k).tmod 65536=gx xs k%65536:=Int.tmod_eq_emod_of_nonneg x0
   have q2:(gx xs k).tdiv 65536=gx xs k/65536:=Int.tdiv_eq_ediv_of_nonneg x0
   have q3:IntKind.i64.wrap (gx xs k%65536)=gx xs k%65536:=by rw[IntKind.wrap_i64];omega
   have q4:IntKind.u32.wrap (gx xs k/65536)=gx xs k/65536:=by rw[IntKind.wrap_u32'];omega
   have q5:IntKind.i64.wrap (gx xs k/65536)=gx xs k/65536:=by rw[IntKind.wrap_i64];omega
   have hbl:b<wr.heap.size:=block_lt_of_cell hck
   obtain⟨b',off',hp',hcellW⟩:=hAW.rd (by omega)
   cases hp'
   have hckW:=hcellW k (by omega)
   have hwl:w.heap.size<wr.heap.size:=by have h1:=HS.out;have h2:=hBr.size;omega
   clear hcell hcellW
   obtain⟨hi,hz0,hz1,hz2⟩:=HI.out
   have hown:=H.out.1
   have HO:Hid (wr.ownsRow W.heap.size 3 1 u3 (2*k) ((spl (xs.take k)).map (Value.int .i64))):=hown
   clear hown
   go_wp2
   go_region_held3 (fun w'=>w'.cell? ⟨w.heap.size,1,none⟩=some (.slice (some ⟨b,off,none⟩) n nc)∧w'.cell? ⟨b,off+k,none⟩=some (.int .u32 (gx xs k))) (first|exact⟨by assumption,by assumption⟩|(simp[go_sem, *];done))
    (first
     |(refine step_append_lies _ rfl _ _ 41 rfl W.heap.size 3 i0 (.int .i64 0) 1 8 Tryz.underlying41 hi hz0 hz1 hz2 rfl (by decide) u3 (2*k) ((spl (xs.take k)).map (Value.int .i64)) rfl (HO.out.alloc _) ⟨wr.heap.size,0,none⟩ 2 2 [.int .i64 (gx xs k%65536),.int .i64 (gx xs k/65536)] rfl rfl ?_ (fun x hx=>by simp at hx;rcases hx with rfl|rfl<;>rfl) (by decide) (by unfold maxLen;omega) (by omega) (by have:=hBr.size;simp;omega) _ rfl ?_;exact fun j u hu=>(World.cell?_drew ..).trans (cell_two_new wr _ _ _ j u hu);intro g cap w3 hown3 hgrow3 hat3 hlt3;have hB3:Below W.heap.size W w3:=(cY hBr.drew).grown hgrow3 (by have:=hBr.size;simp;omega) (fun q hq=>(HO.out.lt q hq).1);have e1:=cell_later hB3 hb1.c1;have e2:=cell_later hB3 hckW))
   go_wp2
   refine⟨⟨k+1,by omega,by go_num,?_,hB3⟩,by simp[intOf];omega⟩
   rw[A1 xs k (by omega),List.map_append,show 2*(k+1)=2*k+2 by omega]
   exact hown3
  ·have hkn:k=n:=by omega
   subst hkn
   have c0:=hb2r.c0
   have c1:=hb2r.c1
   obtain⟨hown,_⟩:=H.out
   rw[List.take_of_length_le (by omega)] at hown
   have hform:∃q cap,u3=.slice q (2*k) cap∧2*k≤cap∧cap≤maxLen∧Rd wr q .i64 (spl xs)∧az W.heap.size q:=by
    rcases hown.2 with ⟨h1,h2⟩|⟨g,cap,cur,h1,hbg,_,h4,h5,_⟩
    ·refine⟨none,0,by rw[h1,h2],by omega,Nat.zero_le _,?_,c9⟩
     have:spl xs=[]:=List.eq_nil_of_length_eq_zero (by rw[gW];omega)
     rw[this];exact Rd.nil
    ·subst h1
     exact⟨_,cap,rfl,h4,h5,fX hown,aL hbg⟩
   obtain⟨q,cap,rfl,hq1,hq2,hq3,hq4⟩:=hform
   clear hown
   go_wp2_with fail
   refine(bE s q (2*k) cap (spl xs) _ (by rw[gW];omega) hq1 hq2 hq3).mono ?_
   rintro e w4 ⟨rfl,hb4⟩
   obtain⟨z0,z1,z2,z3⟩:=bM hb4 hb2r.c0 hb2r.c1 hb2r.f0 hb2r.f1
   go_wp2
   have htl:=ao (spl xs)
   rw[gW] at htl
   have hsW:=HS.out
   refine bodyPost_ret (v:=.agg #[.bool (nsg s (spl xs)),.slice q (ad (spl xs)) (ad (spl xs))]) (by simp[results,Tryz.results50,go_sem,z0,z1]) rfl ?_
   refine⟨_,q,ad (spl xs),rfl,⟨au _,?_,j6 (vN hA.u),aZ _,fun h=>by rw[nsg,if_pos h],by omega⟩,rfl,fun a ha=>by have:=hq4 a ha;omega,?_⟩
   ·exact((hq3.tr.below hb4).ah _ _ (fun a ha=>by have:=hq4 a ha;simp;omega)).ah _ _ (fun a ha=>by have:=hq4 a ha;simp;omega)
   ·exact(((hbw.trans (hBr.mono hbw.size)).trans (hb4.mono (by have:=hBr.size;have:=hbw.size;omega))).setCell (by simp) _).setCell (by simp) _
end Go.Proofs.YtfnkomoickanfaaGreatDoor
