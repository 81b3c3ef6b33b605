/- Own. -/
import Derived.Test.YtfnkomoickanfaaGreatDoorD4
set_option linter.unusedVariables false
set_option linter.unusedSimpArgs false
set_option maxHeartbeats 8000000
set_option maxRecDepth 100000
namespace Go.Proofs.YtfnkomoickanfaaGreatDoor
open Go.RowKit
structure Pv(w wr:World)(g:Nat)(s:Bool)(p:Option Addr)(n:Nat)(ds:List Int)(s1:Bool)(p1:Option Addr)(n1:Nat)(d1:List Int):Prop where
 ba:Bx wr w.heap.size (.bool s) (.slice p n n)
 br:Bx wr (w.heap.size+1) (.bool false) (.slice none 0 0)
 bp:Bx wr g (.bool s1) (.slice p1 n1 n1)
 ra:RN wr s p n ds
 r1:RN wr s1 p1 n1 d1
 hg:w.heap.size+2≤g
 f1:az (w.heap.size+2) p1
 bel:Below w.heap.size w wr
theorem Pv.later{w wr w':World}{g:Nat}{s:Bool}{p:Option Addr}{n:Nat}{ds:List Int}{s1:Bool}{p1:Option Addr}{n1:Nat}{d1:List Int}(h:Pv w wr g s p n ds s1 p1 n1 d1)(hb:Below wr.heap.size wr w'):Pv w w' g s p n ds s1 p1 n1 d1:=
 ⟨h.ba.later hb,h.br.later hb,h.bp.later hb,h.ra.below hb,h.r1.below hb,h.hg,h.f1,h.bel.trans (hb.mono h.bel.size)⟩
theorem Pv.put{w wr w':World}{g:Nat}{s:Bool}{p:Option Addr}{n:Nat}{ds:List Int}{s1:Bool}{p1:Option Addr}{n1:Nat}{d1:List Int}{s2:Bool}{p2:Option Addr}{n2:Nat}{d2:List Int}
  (h:Pv w wr g s p n ds s1 p1 n1 d1) (hb:Below wr.heap.size wr w') (hp:0<n→∀x,p=some x→x.block<w.heap.size) (hr:RN w' s2 p2 n2 d2) (hf:az wr.heap.size p2):
  Pv w ((w'.setCell ⟨g,0,none⟩ (.bool s2)).setCell ⟨g,1,none⟩ (.slice p2 n2 n2)) g s p n ds s2 p2 n2 d2:=by
 have k:=h.later hb
 have hgw:g<wr.heap.size:=block_lt_of_cell h.bp.c0
 have hg:=h.hg
 exact⟨cS k.ba (by omega),cS k.br (by omega),dI k.bp,nQ hp (by show _≤g;omega) (nQ hp (by show _≤g;omega) k.ra),jy hf (by show g<_;omega) (jy hf (by show g<_;omega) hr),hg,hf.mono (by have:=h.bel.size;omega),c8 k.bel (by omega) _ _⟩
theorem qD(s:Bool)(p:Option Addr)(n nc:Nat)(ds:List Int)(w:World)(hl:ds.length=n)(hs:n≤1000000)(ht:ad ds=n)(hX:Rd w p .i64 ds)(hU:U16 ds):
  Calls Tryz.prog 72 #[.agg #[.bool s,.slice p n nc]] w fun e w'=>∃b:Nat,e=.returned (.int .i64 (b:Int))∧Hid (IB b (vd ds))∧Below w.heap.size w w':=by
 rcases Nat.eq_zero_or_pos n with h0|h0
 ·subst h0
  obtain rfl:ds=[]:=List.eq_nil_of_length_eq_zero hl
  go_enter Tryz.func72,Tryz.ntmps72
  go_wp2
  go_ret
  exact⟨0,rfl,⟨by decide,by decide,.inl rfl⟩,(Below.refl _ _).alloc (Nat.le_refl _) _⟩
 ·obtain⟨j,rfl⟩:∃j,n=j+1:=⟨n-1,by omega⟩
  have HL:Hid (ds.length=j+1∧ad ds=j+1):=⟨hl,ht⟩
  obtain⟨b,off,rfl,hc⟩:=(hX.alloc (.cells #[.bool s,.slice p (j+1) nc] 43)) (by omega)
  have hcj:=hc j (by omega)
  obtain⟨b0,b1⟩:=hU j
  clear hc hl ht
  have hz:(((j+1:Nat):Int)==0)=false:=beq_eq_false_iff_ne.2 (by omega)
  have hz':((j:Int)+1==0)=false:=beq_eq_false_iff_ne.2 (by omega)
  go_enter Tryz.func72,Tryz.ntmps72
  go_wp2
  go_loop [4,5] (fun kv tv=>∃(k:Nat) (t:Int),kv=.int .i64 k∧tv=.int .i64 t∧0≤t∧t<65536∧k≤16∧Hid (t=gx ds j/2^k∧(k=0∨(2:Int)^(k-1)≤gx ds j))) (fun _ tv=>(intOf tv).toNat)
  case atStart=>exact⟨0,gx ds j,rfl,rfl,b0,b1,by decide,by simp,.inl rfl⟩
  case round=>
   obtain⟨k,t,rfl,rfl,t0,t1,hk,H⟩:=hrel
   have hp:(0:Int)<2^k:=Int.pow_pos (by decide)
   have hdm:=Int.emod_add_mul_ediv (gx ds j) (2^k)
   have hm0:=Int.emod_nonneg (gx ds j) (show(2:Int)^k≠0 by omega)
   have hm1:=Int.emod_lt_of_pos (gx ds j) hp
   have HD:Hid (gx ds j%2^k+2^k*(gx ds j/2^k)=gx ds j∧0≤gx ds j%2^k∧gx ds j%2^k<2^k∧(0:Int)<2^k):=⟨hdm,hm0,hm1,hp⟩
   clear hp hdm hm0 hm1
   by_cases ht:0<t
   ·have q1:t.tdiv 2=t/2:=Int.tdiv_eq_ediv_of_nonneg t0
    have hge:Hid ((2:Int)^k≤gx ds j):=by
     obtain⟨e1,e2,e3,e4⟩:=HD.out
     have e5:=H.out.1
     have:(2:Int)^k*1≤2^k*(gx ds j/2^k):=Int.mul_le_mul_of_nonneg_left (by omega) (by omega)
     show _≤_
     omega
    have hk15:k+1≤16:=by
     rcases Nat.lt_or_ge k 16 with h|h
     ·omega
     ·exfalso
      have h2:=ef h
      have h3:=hge.out
      have h4:(2:Int)^16=65536:=rfl
      omega
    go_wp2
    go_round
    case rel=>
     refine⟨k+1,t/2,by go_num,rfl,by omega,by omega,hk15,?_,.inr (by rw[Nat.add_sub_cancel];exact hge.out)⟩
     rw[H.out.1,Int.ediv_ediv_of_nonneg (Int.le_of_lt HD.out.2.2.2),Int.pow_succ]
    case measure=>simp[intOf];omega
   ·obtain rfl:t=0:=by omega
    go_wp2
    go_ret
    refine⟨16*j+k,by go_num,?_,(Below.refl _ _).alloc (Nat.le_refl _) _⟩
    have hL:=HL.out
    have hib:IB k (gx ds (ds.length-1)):=by
     rw[hL.1,Nat.add_sub_cancel]
     refine⟨b0,?_,H.out.2⟩
     obtain⟨e1,e2,e3,e4⟩:=HD.out
     have e5:=H.out.1
     rw[←e5,Int.mul_zero] at e1
     omega
    have:=xS hU (by omega) (by omega) hib
    rw[hL.1,Nat.add_sub_cancel] at this
    exact this
theorem Cj{w:World}{N:Nat}{x:Int}{s:Bool}{p:Option Addr}{n:Nat}(h:RV w N x s p n)(hN:N≤1000):
  Calls Tryz.prog 72 #[.agg #[.bool s,.slice p n n]] w fun e w'=>∃b:Nat,e=.returned (.int .i64 (b:Int))∧b≤16*N∧Hid (IB b (x.natAbs:Int))∧Below w.heap.size w w':=by
 have hbd:=h.bd
 obtain⟨ds,h1,rfl,h3⟩:=h
 have a:=ay h1.u
 have e:((ag s ds).natAbs:Int)=vd ds:=by unfold ag;split<;>omega
 rw[e] at hbd ⊢
 refine(qD s p n n ds w h1.len (by omega) h1.nrm h1.rd h1.u).mono ?_
 rintro e w' ⟨b,g1,g2,g3⟩
 refine⟨b,g1,?_,g2,g3⟩
 have hp:pd N=2^(16*N):=by rw[pd,show(65536:Int)=2^16 from rfl,←Int.pow_mul]
 rcases Nat.lt_or_ge (16*N) b with hb|hb
 ·rcases g2.out.2.2 with k|k
  ·omega
  ·have:=ef (show 16*N≤b-1 by omega)
   omega
 ·exact hb
theorem vq{w:World}{N:Nat}{z:Int}{e:Ent}(h:RE w N z e)(hN:N≤1000):
  Calls Tryz.prog 72 #[.agg #[.bool e.s,.slice e.p e.n e.c]] w fun r w'=>r=.returned (.int .i64 (zb z))∧zb z≤16*N∧Below w.heap.size w w':=by
 obtain⟨h1,h2⟩:=h
 rw[h2]
 refine(Cj h1 hN).mono ?_
 rintro r w' ⟨b,rfl,hl,hI,hb⟩
 have e2:=hI.out.uniq (oU z)
 subst e2
 exact⟨rfl,hl,hb⟩
theorem oF{w:World}{N:Nat}{q:Option Addr}{n nc:Nat}{fs:List Ent}{zs:List Int}(k:PR w N q n nc fs zs)(hN:N≤1000)(hn:n≤1000000):
  Calls Tryz.prog 117 #[.slice q n nc] w fun r w'=>r=.returned (.int .i64 (pb zs))∧Below w.heap.size w w':=by
 have hfl:=k.el
 have hzl:=k.zl
 go_enter Tryz.func117,Tryz.ntmps117
 go_wp2_with fail
 go_loopw [3,4,5] (fun mv kv cv wr=>∃j:Nat,j≤n∧kv=.int .i64 j∧mv=.int .i64 (pb (zs.take j))∧Hid (pb (zs.take j)≤16*N∧Below w.heap.size w wr)) (fun _ kv _ _=>n-(intOf kv).toNat)
 case atStart=>exact⟨0,Nat.zero_le _,by go_num,by simp[pb],by simp[pb],Below.refl _ _⟩
 case round=>
  obtain⟨j,hj,rfl,rfl,H⟩:=hrel
  rcases Nat.lt_or_ge j n with hlt|hge
  ·have hh:=k.below H.out.2
   have hv:=hh.ev j hlt
   obtain⟨b,o,hp,hc⟩:=hh.pl (by omega)
   subst hp
   obtain⟨c0,c1⟩:=hc j (by omega)
   have HT:Hid (pb (zs.take (j+1))=max (pb (zs.take j)) (zb (gx zs j))):=Cc zs j (by omega)
   clear hc hh
   go_wp2_with fail
   refine(vq hv hN).mono ?_
   rintro e w1 ⟨rfl,hz,hb1⟩
   have hB:=ae H.out.2 hb1
   clear c0 c1 hv hb1
   by_cases hgt:(pb (zs.take j):Int)<(zb (gx zs j):Int)
   ·have e1:pb (zs.take (j+1))=zb (gx zs j):=by rw[HT.out];omega
    have HE:Hid (pb (zs.take (j+1))=zb (gx zs j)):=e1
    clear e1
    go_wp2
    go_roundw
    case rel=>exact⟨j+1,by omega,by go_num,by rw[HE.out],by rw[HE.out];exact hz,hB⟩
    case measure=>simp[intOf];omega
   ·have e1:pb (zs.take (j+1))=pb (zs.take j):=by rw[HT.out];omega
    have HE:Hid (pb (zs.take (j+1))=pb (zs.take j)):=e1
    clear e1
    go_wp2
    go_roundw
    case rel=>exact⟨j+1,by omega,by go_num,by rw[HE.out],by rw[HE.out];exact H.out.1,hB⟩
    case measure=>simp[intOf];omega
  ·obtain rfl:j=n:=by omega
   have HT:Hid (zs.take j=zs):=List.take_of_length_le (by omega)
   clear hge
   go_wp2
   go_ret
   obtain⟨h1,h2⟩:=H.out
   exact⟨by rw[HT.out];rfl,h2⟩
theorem wY(s:Bool)(p:Option Addr)(n k:Nat)(ds:List Int)(w:World)(hA:RN w s p n ds)(hn:4+(n+1)*k≤1000)(hn1:n≤1000)(hk:k≤1000):
  Calls Tryz.prog 116 #[.agg #[.bool s,.slice p n n],.int .i64 k] w (fc 1000 (ag s ds^k) w):=by
 have hpl:=hA.lt
 have HN:Hid (∀j,j≤k→4+(n+1)*j≤1000∧(n+1)*(j+1)=(n+1)*j+n+1):=fun j hj=>⟨by have:=Nat.mul_le_mul_left (n+1) hj;omega,by rw[Nat.mul_succ];omega⟩
 clear hn
 have b1:Bx ((w.alloc (.cells #[.bool s,.slice p n n] 43)).alloc (.cells #[.bool false,.slice none 0 0] 43)) w.heap.size (.bool s) (.slice p n n):=(Bx.new _ _ _ rfl).alloc _
 have b2:Bx ((w.alloc (.cells #[.bool s,.slice p n n] 43)).alloc (.cells #[.bool false,.slice none 0 0] 43)) (w.heap.size+1) (.bool false) (.slice none 0 0):=Bx.new _ _ _ (by rw[World.size_alloc])
 have hbw:Below w.heap.size w ((w.alloc (.cells #[.bool s,.slice p n n] 43)).alloc (.cells #[.bool false,.slice none 0 0] 43)):=af (af (Below.refl _ _))
 have hsz:w.heap.size+2≤((w.alloc (.cells #[.bool s,.slice p n n] 43)).alloc (.cells #[.bool false,.slice none 0 0] 43)).heap.size:=by simp
 go_enter Tryz.func116,Tryz.ntmps116
 go_wp2_with fail
 generalize ((w.alloc (.cells #[.bool s,.slice p n n] 43)).alloc (.cells #[.bool false,.slice none 0 0] 43))=wc at *
 have hA1:=hA.below hbw
 refine(eg 1 _ (by decide) (by decide)).mono ?_
 rintro e w4 ⟨s4,p4,n4,d4,rfl,hR4,hv4,hn4,hF4,hb4⟩
 have HP:Hid (Pv w (w4.alloc (.cells #[.bool s4,.slice p4 n4 n4] 43)) w4.heap.size s p n ds s4 p4 n4 d4∧ag s4 d4=ag s ds^0∧n4≤4):=
  ⟨⟨(b1.later hb4).alloc _,(b2.later hb4).alloc _,Bx.new _ _ _ rfl,(hA1.below hb4).alloc _,hR4.alloc _,Nat.le_trans hsz hb4.size,hF4.mono hsz,(aW hbw (Nat.le_refl _) hb4).alloc (Nat.le_trans hbw.size hb4.size) _⟩,by rw[hv4,Int.pow_zero],hn4⟩
 have HO:Hid (0<n→∀x,p=some x→x.block<w.heap.size):=hpl
 clear hv4 hR4 hF4 hb4 b1 b2 hA1 hbw hpl hsz hn4
 go_wp2
 generalize w4.alloc (.cells #[.bool s4,.slice p4 n4 n4] 43)=wd at *
 generalize w4.heap.size=g at *
 go_loopw [6] (fun kv wr=>∃(j:Nat) (s1:Bool) (p1:Option Addr) (n1:Nat) (d1:List Int),kv=.int .i64 j∧j≤k∧n1≤4+(n+1)*j∧Hid (Pv w wr g s p n ds s1 p1 n1 d1∧ag s1 d1=ag s ds^j)) (fun kv _=>(k-intOf kv).toNat)
 case atStart=>exact⟨0,s4,p4,n4,d4,rfl,Nat.zero_le _,by have:=HP.out.2.2;omega,HP.out.1,HP.out.2.1⟩
 case round=>
  obtain⟨j,s1,p1,n1,d1,rfl,hj,hn1,H⟩:=hrel
  have c0:=H.out.1.bp.c0
  have c1:=H.out.1.bp.c1
  by_cases hjk:j=k
  ·subst hjk
   have z0:=H.out.1.br.c0
   have z1:=H.out.1.br.c1
   have f0:=H.out.1.br.f0
   have f1:=H.out.1.br.f1
   go_wp2
   refine bodyPost_ret (v:=.agg #[.bool s1,.slice p1 n1 n1]) (by simp[results,Tryz.results116,go_sem,c0,c1,z0,z1]) rfl ⟨_,_,_,d1,rfl,?_,H.out.2,by have:=HN.out j hj;omega,?_,?_⟩
   ·exact jy H.out.1.f1 (Nat.lt_succ_self _) (jy H.out.1.f1 (Nat.lt_succ_self _) H.out.1.r1)
   ·exact H.out.1.f1.mono (by omega)
   ·exact c8 H.out.1.bel (by omega) _ _
  ·have hlt:j<k:=by omega
   have a0:=H.out.1.ba.c0
   have a1:=H.out.1.ba.c1
   have hml:=vA H.out.1.r1 H.out.1.ra (by have:=HN.out j hj;omega) (by omega)
   go_wp2_with fail
   refine hml.mono ?_
   rintro e w1 ⟨s2,p2,n2,d2,rfl,hR2,hv2,hn2,hF2,hb2⟩
   have HQ:Hid (Pv w ((w1.setCell ⟨g,0,none⟩ (.bool s2)).setCell ⟨g,1,none⟩ (.slice p2 n2 n2)) g s p n ds s2 p2 n2 d2∧ag s2 d2=ag s ds^(j+1)):=
    ⟨H.out.1.put hb2 HO.out hR2 hF2,by rw[hv2,H.out.2,Int.pow_succ]⟩
   have hV1:=H.out.1.later hb2
   obtain⟨x0,x1,x2,x3⟩:=hV1.bp
   clear c0 c1 a0 a1 hml hv2 hV1
   go_wp2
   refine⟨⟨j+1,s2,p2,n2,d2,by go_num,by omega,by have:=HN.out j hj;omega,HQ.out⟩,by simp[intOf];omega⟩
theorem wZ{w:World}{k:Nat}{e:Ent}(h:RE w 4 2 e)(hk:k≤190):
  Calls Tryz.prog 116 #[.agg #[.bool e.s,.slice e.p e.n e.c],.int .i64 k] w fun r w'=>∃u:Ent,r=.returned (.agg #[.bool u.s,.slice u.p u.n u.c])∧RE w' 1000 (2^k) u∧az w.heap.size u.p∧Below w.heap.size w w':=by
 obtain⟨⟨ds,h1,h2,h3⟩,h4⟩:=h
 rw[h4]
 have hm:=Nat.mul_le_mul (show e.n+1≤5 by omega) hk
 refine(wY e.s e.p e.n k ds w h1 (by omega) (by omega) (by omega)).mono ?_
 rintro r w1 ⟨s,p,n,d,rfl,g1,g2,g3,g4,g5⟩
 rw[h2] at g2
 exact⟨⟨s,p,n,n⟩,rfl,⟨⟨d,g1,g2,g3⟩,rfl⟩,g4,g5⟩
def NaP(zs:List Int)(M:Nat)(w:World)(r:Ending)(w':World):Prop:=
 ∃v es,r=.returned v∧LR w.heap.size w' M v es (rts zs 0 ((2:Int)^(pb zs+1)+1-0).toNat)∧(es=[]→v=.slice none 0 0)∧Below w.heap.size w w'
theorem zo{k:Nat}(hk:k≤39):(2:Int)^k<1099511627776:=by
 have h1:(2:Nat)^k≤2^39:=Nat.pow_le_pow_right (by decide) hk
 have h2:(2:Nat)^39=549755813888:=by decide
 have h3:((2^k:Nat):Int)=(2:Int)^k:=by push_cast;rfl
 omega
theorem ud{w:World}{N K L n nc:Nat}{p:Option Addr}{es:List Ent}{zs:List Int}(h:PR w N p n nc es zs)(nz:∃t,gx zs t≠0)(n30:n≤30)(nN:N≤60)(N4:4≤N)(L9:L≤40)(K2:2≤K)(bd:∀i,((gx zs i).natAbs:Int)<pw K)(sz:K+1+n*(L+1)+L≤40)(hB:pb zs≤38)(hL:(2:Int)^(pb zs+1)+1<pw L):
  Calls Tryz.prog 78 #[.slice p n nc] w (NaP zs (2*L) w):=by
 have L1:1≤L:=by
  have h8:(0:Int)<(2:Int)^(pb zs+1):=Int.pow_pos (by decide)
  rcases Nat.eq_zero_or_pos L with h9|h9
  ·subst h9
   have h7:pw 0=1:=rfl
   omega
  ·exact h9
 have HX:Hid (PR w N p n nc es zs∧(∃t,gx zs t≠0)∧(∀i,((gx zs i).natAbs:Int)<pw K)∧(2:Int)^(pb zs+1)+1<pw L∧(2:Int)^(pb zs+1)<1099511627776∧(0:Int)<(2:Int)^(pb zs+1)∧K+1+n*(L+1)+L≤40):=⟨h,nz,bd,hL,zo (by omega),Int.pow_pos (by decide),sz⟩
 clear h nz bd hL sz
 unfold NaP
 generalize hP:pb zs=B at *
 go_enter Tryz.func78,Tryz.ntmps78
 go_wp2_with fail
 refine(gZ 2 _ (by decide) (by decide)).mono ?_
 rintro r w1 ⟨u,rfl,hu,-,hb1⟩
 have hbi:=oF (HX.out.1.below hb1) (by omega) (by omega)
 rw[hP] at hbi
 go_wp2_with fail
 refine hbi.mono ?_
 rintro r w2 ⟨rfl,hb2⟩
 have hpw:=wZ (k:=B+1) (hu.below hb2) (by omega)
 rw[show((B+1:Nat):Int)=(B:Int)+1 by push_cast;rfl] at hpw
 clear hbi
 go_wp2_with fail
 refine hpw.mono ?_
 rintro r w3 ⟨v,rfl,hv,-,hb3⟩
 have hal:=af (o:=.cells #[.bool v.s,.slice v.p v.n v.c] 43) (Below.refl w3.heap.size w3)
 have hX0:Bx (w3.alloc (.cells #[.bool v.s,.slice v.p v.n v.c] 43)) w3.heap.size (.bool v.s) (.slice v.p v.n v.c):=Bx.new _ _ _ rfl
 have hv1:=(hv.below hal).tight (K:=L) (by have:=HX.out.2.2.2.1;have:=HX.out.2.2.2.2.2.1;omega)
 have hB3:=ae (ae (ae hb1 hb2) hb3) hal
 have hP3:=HX.out.1.below hB3
 go_upto_region 2 with fail
 clear hu hb1 hb2 hpw hv hb3 hal
 generalize w3.alloc (.cells #[.bool v.s,.slice v.p v.n v.c] 43)=W at *
 generalize w3.heap.size=g at *
 have k0:=hX0.c0
 have k1:=hX0.c1
 clear hX0
 go_region_held3 (fun w'=>w'.cell? ⟨g,0,none⟩=some (.bool v.s)∧w'.cell? ⟨g,1,none⟩=some (.slice v.p v.n v.c)) (first|with_reducible exact⟨k0,k1⟩|with_reducible exact⟨a0,a1⟩|with_reducible exact⟨b0,b1⟩|(simp[go_sem, *];done))
  (first
   |(go_at_call 21;go_fit (gZ 0 _ (by decide) (by decide));rintro r v1 ⟨y,rfl,hy,hFy,hb1⟩;have hB1:=aC hb1;have a0:=cell_later hB1 k0;have a1:=cell_later hB1 k1)
   |(go_at_call 118;go_fit (xA N K L n nc p es zs _ (Nat.le_refl _) (show WiI _ N K L n nc p es zs 0 ((2:Int)^(B+1)) y v from⟨hP3.below hB1,HX.out.2.1,hy.tight (K:=L) (by show(0:Int)<pw L;exact aU _),hv1.below hB1,Int.le_refl _,by have:=HX.out.2.2.2.2.2.1;omega,by have:=HX.out.2.2.2.2.2.1;omega,HX.out.2.2.2.1,HX.out.2.2.2.2.1,n30,nN,N4,L1,L9,K2,HX.out.2.2.1,HX.out.2.2.2.2.2.2⟩));rintro r v2 ⟨rv,es1,rfl,hLR,hnil,-,hB2⟩;have b0:=cell_later hB2 a0;have b1:=cell_later hB2 a1))
 all_goals
  have HF:Hid (LR w.heap.size v2 (2*L) rv es1 (rts zs 0 ((2:Int)^(B+1)+1-0).toNat)∧(es1=[]→rv=.slice none 0 0)∧Below w.heap.size w v2):=⟨hLR.low (by have:=hB3.size;have:=hB1.size;omega),hnil,ae (ae hB3 hB1) hB2⟩
  clear k0 k1 a0 a1 b0 b1 hLR hnil hB1 hB2 hB3 hP3 hv1 hy hFy hb1
  go_wp2
  go_ret
  exact⟨rv,es1,rfl,HF.out⟩
structure Hdr where
 p:Option Addr
 n:Nat
 c:Nat
instance:Inhabited Hdr:=⟨⟨none,0,0⟩⟩
def Hdr.val(h:Hdr):Value:=.slice h.p h.n h.c
def gh(hs:List Hdr)(j:Nat):Hdr:=hs.getD j default
def HL(w:World)(p:Option Addr)(hs:List Hdr):Prop:=0<hs.length→∃b o,p=some ⟨b,o,none⟩∧∀j,j<hs.length→w.cell? ⟨b,o+j,none⟩=some (gh hs j).val
theorem HL.below{w w':World}{p:Option Addr}{hs:List Hdr}(h:HL w p hs)(hb:Below w.heap.size w w'):HL w' p hs:=fun hp=>by
 obtain⟨b,o,e,hc⟩:=h hp
 refine⟨b,o,e,fun j hj=>?_⟩
 have h1:=hc j hj
 rw[hb.cell (by
  rcases Nat.lt_or_ge b w.heap.size with h2|h2
  ·exact h2
  ·simp[World.cell?,Array.getElem?_eq_none h2] at h1)]
 exact h1
theorem py(a b:List Hdr)(i:Nat)(h:i<a.length):gh (a++b) i=gh a i:=by simp[gh,List.getElem?_append,h]
theorem BN(a:List Hdr)(e:Hdr):gh (a++[e]) a.length=e:=by simp[gh]
def gt{α:Type}[Inhabited α](ts:List α)(j:Nat):α:=ts.getD j default
theorem pB{α:Type}[Inhabited α](a b:List α)(i:Nat)(h:i<a.length):gt (a++b) i=gt a i:=by simp[gt,List.getElem?_append,h]
theorem BQ{α:Type}[Inhabited α](a:List α)(e:α):gt (a++[e]) a.length=e:=by simp[gt]
structure gB{α:Type}(E:World→Nat→Nat→α→Hdr→Prop):Prop where
 grown:∀{w w':World} {B T:Nat} {z:α} {h:Hdr} {row:Option Nat},E w B T z h→T≤w.heap.size→w.grownBy w' row→(∀r,row=some r→r<B∨T≤r)→E w' B T z h
 wide:∀{w:World} {B T B' T':Nat} {z:α} {h:Hdr},E w B T z h→B'≤B→T≤T'→E w B' T' z h
theorem gB.below{α:Type}{E:World→Nat→Nat→α→Hdr→Prop}(L:gB E){w w':World}{B T:Nat}{z:α}{h:Hdr}(he:E w B T z h)(hT:T≤w.heap.size)(hb:Below w.heap.size w w'):E w' B T z h:=
 L.grown he hT (eE hb none) nofun
structure fa{α:Type}[Inhabited α](D:Nat)(E:World→Nat→Nat→α→Hdr→Prop)(w:World)(B T:Nat)(ts:List α)(h:Hdr)(hs:List Hdr):Prop where
 el:hs.length=h.n
 tl:ts.length=h.n
 cap:h.n≤h.c
 bnd:h.c≤maxLen
 pn:h.p=none→h.c=0
 few:h.n≤D
 hl:HL w h.p hs
 at_:∀a,h.p=some a→0<h.n→B≤a.block∧a.block<T
 ev:∀j,j<h.n→E w B T (gt ts j) (gh hs j)
def HR{α:Type}[Inhabited α](D:Nat)(E:World→Nat→Nat→α→Hdr→Prop)(w:World)(B T:Nat)(ts:List α)(h:Hdr):Prop:=∃hs,fa D E w B T ts h hs
theorem HL.same{w w':World}{p:Option Addr}{hs:List Hdr}(h:HL w p hs)(hk:∀a,p=some a→0<hs.length→a.block<w.heap.size→w'.heap[a.block]?=w.heap[a.block]?):HL w' p hs:=fun hp=>by
 obtain⟨b,o,e,hc⟩:=h hp
 have hlt:b<w.heap.size:=block_lt_of_cell (hc 0 hp)
 exact⟨b,o,e,fun j hj=>(World.cell?_of_block (a:=⟨b,o+j,none⟩) (hk ⟨b,o,none⟩ e hp hlt)).trans (hc j hj)⟩
theorem bK{α:Type}[Inhabited α]{D:Nat}{E:World→Nat→Nat→α→Hdr→Prop}(L:gB E):gB (HR D E):=⟨fun {w w' B T z h row} he hT hg hr=>by
  obtain⟨hs,k⟩:=he
  refine⟨hs,k.el,k.tl,k.cap,k.bnd,k.pn,k.few,k.hl.same fun a ha hn hlt=>hg.block a.block hlt fun e=>?_,k.at_,fun j hj=>L.grown (k.ev j hj) hT hg hr⟩
  have h1:=k.at_ a ha (by rw[←k.el];exact hn)
  have h2:=hr a.block e.symm
  omega,fun {w B T B' T' z h} he hB hT=>by
  obtain⟨hs,k⟩:=he
  exact⟨hs,k.el,k.tl,k.cap,k.bnd,k.pn,k.few,k.hl,fun a ha hn=>by have:=k.at_ a ha hn;omega,fun j hj=>L.wide (k.ev j hj) hB hT⟩⟩
structure LH{α:Type}[Inhabited α](base:Nat)(t:TypeId)(E:World→Nat→Nat→α→Hdr→Prop)(w:World)(v:Value)(hs:List Hdr)(ts:List α):Prop where
 own:w.ownsRow base t 1 v hs.length (hs.map Hdr.val)
 tl:ts.length=hs.length
 ev:∀j,j<hs.length→∃B T,base≤B∧T≤w.heap.size∧E w B T (gt ts j) (gh hs j)∧∀r,v.ownBlock=some r→r<B∨T≤r
section
variable {α:Type} [Inhabited α] {base:Nat} {t:TypeId} {E:World→Nat→Nat→α→Hdr→Prop}
theorem LH.nil(base:Nat)(t:TypeId)(E:World→Nat→Nat→α→Hdr→Prop)(w:World):LH base t E w (.slice none 0 0) [] []:=⟨World.ownsRow_nil _ _ _ _,rfl,fun j hj=>by simp at hj⟩
theorem LH.app(L:gB E){wr w1 w3:World}{v:Value}{hs:List Hdr}{ts:List α}{z:α}{h:Hdr}{o:Obj}{g cap k B T:Nat}(hk:hs.length=k)(H:LH base t E wr v hs ts)(hb1:Below wr.heap.size wr w1)(hE:E w1 B T z h)(hB:wr.heap.size≤B)(hT:T≤w1.heap.size)(hbase:base≤wr.heap.size)
  (hown:w3.ownsRow base t 1 (.slice (some ⟨g,0,none⟩) (k+1) cap) (k+1) (hs.map Hdr.val++[h.val])) (hgrow:(w1.alloc o).grownBy w3 v.ownBlock) (hat:v.ownBlock=some g∨g=(w1.alloc o).heap.size):
  LH base t E w3 (.slice (some ⟨g,0,none⟩) (k+1) cap) (hs++[h]) (ts++[z]):=by
 subst hk
 have hal:Below w1.heap.size w1 (w1.alloc o):=(Below.refl _ _).alloc (Nat.le_refl _) o
 have hs1:=hb1.size
 have hs2:=hal.size
 have hs3:=hgrow.size
 have ob:∀r,(Value.slice (some ⟨g,0,none⟩) (hs.length+1) cap).ownBlock=some r→r=g:=fun r hr=>(Option.some.inj hr).symm
 refine⟨by rw[List.length_append,List.map_append];exact hown,by simp[H.tl],fun j hj=>?_⟩
 rcases Nat.lt_or_ge j hs.length with hlt|hge
 ·rw[py _ _ _ hlt,pB _ _ _ (by rw[H.tl];exact hlt)]
  obtain⟨B',T',h1,h2,h3,h4⟩:=H.ev j hlt
  have h5:=L.below (L.below h3 h2 hb1) (Nat.le_trans h2 hs1) hal
  refine⟨B',T',h1,by omega,L.grown h5 (by omega) hgrow h4,fun r hr=>?_⟩
  obtain rfl:=ob r hr
  rcases hat with h6|h6
  ·exact h4 _ h6
  ·right;omega
 ·have:j=hs.length:=by simp at hj;omega
  subst this
  have e1:gt (ts++[z]) hs.length=z:=by rw[←H.tl];exact BQ ts z
  rw[BN,e1]
  have old:∀r,v.ownBlock=some r→r<B∨T≤r:=fun r hr=>by
   have:=(H.own.lt r hr).2
   left;omega
  refine⟨B,T,by omega,by omega,L.grown (L.below hE hT hal) (by omega) hgrow old,fun r hr=>?_⟩
  obtain rfl:=ob r hr
  rcases hat with h6|h6
  ·exact old _ h6
  ·right;omega
theorem wQ{w:World}{B n:Nat}{t:TypeId}{v:Value}{xs:List Value}(h:w.ownsRow B t 1 v n xs):∃q cap,v=.slice q n cap∧n≤cap∧cap≤maxLen∧(q=none→cap=0)∧∀a,q=some a→B≤a.block∧a.block<w.heap.size:=by
 rcases h.2 with ⟨h1,h2⟩|⟨g,cap,cur,h1,h2,h3,h4,h5,_⟩
 ·exact⟨none,0,by rw[h1,h2],by omega,Nat.zero_le _,fun _=>rfl,nofun⟩
 ·exact⟨_,cap,h1,h4,h5,nofun,fun a ha=>by
   have h6:=h.lt g (by rw[h1];rfl)
   cases ha
   exact⟨h2,h6.2⟩⟩
theorem AD{w:World}{B cap:Nat}{t:TypeId}{q:Option Addr}{hs:List Hdr}(h:w.ownsRow B t 1 (.slice q hs.length cap) hs.length (hs.map Hdr.val)):HL w q hs:=fun hx=>by
 obtain⟨g,cap',h1,h2,_⟩:=h.form hx
 cases h1
 refine⟨g,0,rfl,fun j hj=>?_⟩
 have e0:=h.cells (g:=g) rfl j (gh hs j).val (by simp[gh,hj])
 rw[Addr.add_mid] at e0
 exact e0
theorem LH.row(L:gB E){w:World}{v:Value}{hs:List Hdr}{ts:List α}{D:Nat}(h:LH base t E w v hs ts)(hD:hs.length≤D):∃q cap,v=.slice q hs.length cap∧fa D E w base w.heap.size ts ⟨q,hs.length,cap⟩ hs:=by
 obtain⟨q,cap,h1,h2,h3,h4,h5⟩:=wQ h.own
 have ho:=h.own
 rw[h1] at ho
 exact⟨q,cap,h1,rfl,h.tl,h2,h3,h4,hD,AD ho,fun a ha _=>h5 a ha,fun j hj=>by
  obtain⟨B,T,k1,k2,k3,_⟩:=h.ev j hj
  exact L.wide k3 k1 k2⟩
end
def EZ(K D:Nat)(w:World)(B T:Nat)(zs:List Int)(h:Hdr):Prop:=
 ∃fs,PA w K h.p h.n h.c fs zs∧h.n≤D∧(∀a,h.p=some a→0<h.n→B≤a.block∧a.block<T)∧∀j,j<h.n→0<(ge fs j).n→∀a,(ge fs j).p=some a→B≤a.block∧a.block<T
theorem fO(K D:Nat):gB (EZ K D):=⟨fun {w w' B T z h row} he hT hg hr=>by
  obtain⟨fs,k,h1,h2,h3⟩:=he
  refine⟨fs,⟨k.el,k.zl,k.cap,k.bnd,k.pn,fun hx=>(k.pl.same fun a ha hlt=>hg.block a.block hlt fun e=>?_) hx,fun j hj=>(sD K).grown (k.ev j hj) hg fun hn a ha e=>?_⟩,h1,h2,h3⟩
  ·have h4:=h2 a ha (by rw[←k.el];exact hx)
   have h5:=hr a.block e.symm
   omega
  ·have h4:=h3 j hj hn a ha
   have h5:=hr a.block e.symm
   omega,fun {w B T B' T' z h} he hB hT=>by
  obtain⟨fs,k,h1,h2,h3⟩:=he
  exact⟨fs,k,h1,fun a ha hn=>by have:=h2 a ha hn;omega,fun j hj hn a ha=>by have:=h3 j hj hn a ha;omega⟩⟩
def aD(zss:List (List Int)):Nat:=ad (zss.map fun z=>(ad z:Int))
theorem ee(zss:List (List Int)):aD zss≤zss.length:=by
 have:=ao (zss.map fun z=>(ad z:Int))
 rwa [List.length_map] at this
theorem ko(zss:List (List Int))(j:Nat):gx (zss.map fun z=>(ad z:Int)) j=(ad (gt zss j):Int):=by
 rcases Nat.lt_or_ge j zss.length with h|h
 ·simp[gx,gt,h]
 ·have h1:gt zss j=[]:=by simp[gt,h];rfl
  rw[h1]
  simp[gx,h]
  rfl
theorem yK(zss:List (List Int))(j:Nat)(h:aD zss≤j):ad (gt zss j)=0:=by
 have:=dT _ _ h
 rw[ko] at this
 omega
theorem jS(zss:List (List Int))(k:Nat)(h1:∀j,k≤j→ad (gt zss j)=0)(h2:k=0∨¬ad (gt zss (k-1))=0):aD zss=k:=by
 refine cP _ k (fun j hj=>by rw[ko,h1 j hj];rfl) ?_
 rcases h2 with h|h
 ·exact .inl h
 ·refine .inr ?_
  rw[ko]
  omega
theorem dM(zss:List (List Int))(j:Nat)(h:zss.length≤j):gt zss j=[]:=by simp[gt,h];rfl
theorem pC{α:Type}[Inhabited α](l:List α)(n j:Nat)(h:j<n):gt (l.take n) j=gt l j:=by simp[gt,List.getElem?_take,h]
theorem mn(l:List Hdr)(n j:Nat)(h:j<n):gh (l.take n) j=gh l j:=by simp[gh,List.getElem?_take,h]
theorem fa.cut{α:Type}[Inhabited α]{D:Nat}{E:World→Nat→Nat→α→Hdr→Prop}{w:World}{B T:Nat}{ts:List α}{h:Hdr}{hs:List Hdr}(k:fa D E w B T ts h hs)(n:Nat)(hn:n≤h.n):fa D E w B T (ts.take n) ⟨h.p,n,n⟩ (hs.take n):=by
 refine⟨by have:=k.el;simp;omega,by have:=k.tl;simp;omega,Nat.le_refl _,Nat.le_trans hn (Nat.le_trans k.cap k.bnd),fun e=>?_,Nat.le_trans hn k.few,fun hp=>?_,fun a ha h0=>k.at_ a ha (Nat.lt_of_lt_of_le h0 hn),fun j hj=>?_⟩
 ·have h1:=k.pn e
  have h2:=k.cap
  show n=0
  omega
 ·have hl:0<n∧0<hs.length:=by simp at hp;omega
  obtain⟨b,o,hb,hc⟩:=k.hl hl.2
  refine⟨b,o,hb,fun j hj=>?_⟩
  have hj':j<n∧j<hs.length:=by simp at hj;omega
  rw[mn _ _ _ hj'.1]
  exact hc j hj'.2
 ·rw[mn _ _ _ hj,pC _ _ _ hj]
  exact k.ev j (Nat.lt_of_lt_of_le hj hn)
theorem qe(q:Option Addr)(m mc:Nat)(w:World)(h:m≤mc)(hc:mc≤maxLen)(hq:q=none→mc=0):
  Calls Tryz.prog 124 #[.slice q m mc] w fun e w'=>e=.returned (.slice q m m)∧w=w':=by
 unfold maxLen at hc
 go_enter Tryz.func124,Tryz.ntmps124
 go_wp2
 go_ret
 exact⟨rfl,rfl⟩
theorem lJ{w:World}{B T K E D:Nat}{zss:List (List Int)}{h:Hdr}(H:HR D (EZ K E) w B T zss h)(hT:T≤w.heap.size)(hD:D≤1000000)(hE:E≤1000000):
  Calls Tryz.prog 88 #[.slice h.p h.n h.c] w fun e w'=>e=.returned (.slice h.p (aD zss) (aD zss))∧Below w.heap.size w w':=by
 obtain⟨hs,k⟩:=H
 have HX:Hid (fa D (EZ K E) w B T zss h hs∧T≤w.heap.size):=⟨k,hT⟩
 have hn:h.n≤D:=k.few
 have hcap:h.n≤h.c:=k.cap
 have hbnd:h.c≤maxLen:=k.bnd
 have hpn:h.p=none→h.c=0:=k.pn
 have HL:Hid (zss.length=h.n):=k.tl
 obtain⟨p,n,nc⟩:=h
 simp only at hn hcap hbnd hpn HL ⊢
 have hbnd':=hbnd
 unfold maxLen at hbnd'
 clear k hT
 go_enter Tryz.func88,Tryz.ntmps88
 go_wp2
 go_loopw [3] (fun nv wr=>∃k:Nat,k≤n∧nv=.int .i64 k∧Hid ((∀j,k≤j→ad (gt zss j)=0)∧Below w.heap.size w wr)) (fun nv _=>(intOf nv).toNat)
 case atStart=>exact⟨n,Nat.le_refl _,by go_num,fun j hj=>by rw[dM _ _ (by have:=HL.out;omega)];rfl,Below.refl _ _⟩
 case round=>
  obtain⟨k,hk,rfl,H⟩:=hrel
  rcases Nat.eq_zero_or_pos k with h0|h0
  ·subst h0
   have HT:Hid (aD zss=0):=jS zss 0 (fun j _=>H.out.1 j (Nat.zero_le _)) (.inl rfl)
   have hcl:=fun w=>qe p 0 nc w (Nat.zero_le _) hbnd hpn
   go_wp2_with fail
   go_fit (hcl wr)
   rintro e w1 ⟨rfl,rfl⟩
   clear hcl
   go_wp2
   go_ret
   exact⟨by rw[HT.out];rfl,H.out.2⟩
  ·obtain⟨i,rfl⟩:∃i,k=i+1:=⟨k-1,by omega⟩
   obtain⟨H1,H2⟩:=H.out
   have HH:Hid ((∀j,i+1≤j→ad (gt zss j)=0)∧Below w.heap.size w wr):=⟨H1,H2⟩
   obtain⟨b,o,hp,hc⟩:=HX.out.1.hl (by rw[HX.out.1.el];show 0<n;omega)
   simp only at hp
   subst hp
   have c0:=hc i (by rw[HX.out.1.el];show i<n;omega)
   have c1:wr.cell? ⟨b,o+i,none⟩=some (gh hs i).val:=by rw[H2.cell (block_lt_of_cell c0)];exact c0
   have hE2:=(fO K E).below (HX.out.1.ev i (by show i<n;omega)) HX.out.2 H2
   generalize gh hs i=hd at c1 hE2
   obtain⟨p2,n2,nc2⟩:=hd
   simp only[Hdr.val] at c1
   obtain⟨es2,hP2,hd3,-,-⟩:=hE2
   simp only at hP2 hd3
   have v1:wrap64 ((i:Int)+1-1)=(i:Int):=by unfold wrap64;omega
   have hlt:(i:Int)<(n:Int):=by omega
   clear H H1 H2 hc c0
   go_wp2_with fail
   go_fit (A9 K p2 n2 nc2 es2 (gt zss i) wr hP2 (by omega))
   rintro e w1 ⟨rfl,hb1⟩
   have hB:=ae HH.out.2 hb1
   have HBB:Hid (Below w.heap.size w w1):=hB
   clear c1 hP2 hb1 hB
   have hcs:Hid (ad (gt zss i)=0∨¬ad (gt zss i)=0):=Classical.em _
   rcases hcs.out with hz|hz
   ·have HZ:Hid (ad (gt zss i)=0):=hz
    have d1:(ad (gt zss i):Int)-1<0:=by omega
    clear hz hcs
    generalize (ad (gt zss i):Int)-1=t at *
    go_wp2
    go_roundw
    case rel=>exact⟨i,by omega,by go_num,fun j hj=>by
     rcases Nat.lt_or_ge i j with h|h
     ·exact HH.out.1 j h
     ·have:j=i:=by omega
      subst this;exact HZ.out,HBB.out⟩
    case measure=>simp[intOf]
   ·have HT:Hid (aD zss=i+1):=jS zss (i+1) HH.out.1 (.inr hz)
    have d1:¬(ad (gt zss i):Int)-1<0:=by omega
    clear hz hcs
    generalize (ad (gt zss i):Int)-1=t at *
    have hcl:=fun w=>qe (some ⟨b,o,none⟩) (i+1) nc w (by omega) hbnd hpn
    go_wp2_with fail
    go_fit (hcl w1)
    rintro e w2 ⟨rfl,rfl⟩
    clear hcl
    go_wp2
    go_ret
    exact⟨by rw[HT.out];rfl,HBB.out⟩
theorem PN.put{B:Nat}{w:World}{K:Nat}{p:Option Addr}{n:Nat}{es:List Ent}{zs:List Int}(h:PN B w K p n es zs){b o:Nat}(hb:b<B)(v:Value):PN B (w.setCell ⟨b,o,none⟩ v) K p n es zs:=
 ⟨h.el,h.zl,h.nrm,h.pl.ah _ _ (aT h.fr hb),h.fr,fun j hj=>by
  obtain⟨xs,c1,c2,c3⟩:=h.ev j hj
  exact⟨xs,c1.set (a:=⟨b,o,none⟩) hb v,c2,c3⟩⟩
def HB(w:World)(g:Nat)(hs:List Hdr):Prop:=w.heap[g]?=some (.cells (hs.map Hdr.val).toArray 51 (0,0))
section
variable {w w':World} {g:Nat} {hs:List Hdr}
theorem HB.lt(h:HB w g hs):g<w.heap.size:=(Array.getElem?_eq_some_iff.1 h).1
theorem HB.cell(h:HB w g hs)(j:Nat)(hj:j<hs.length):w.cell? ⟨g,j,none⟩=some (gh hs j).val:=by
 have h':w.heap[g]?=some (.cells (hs.map Hdr.val).toArray 51 (0,0)):=h
 simp[World.cell?,h',gh,hj]
theorem HB.frozen(h:HB w g hs)(j:Nat):w.frozen? ⟨g,j,none⟩=false:=frozen_of_row w g j _ _ h
theorem HB.set(h:HB w g hs)(j:Nat)(v:Hdr):HB (w.setCell ⟨g,j,none⟩ v.val) g (hs.set j v):=by
 unfold HB
 rw[heap_setCell_same w g j _ _ _ h]
 simp[List.map_set]
theorem HB.below{B:Nat}(h:HB w g hs)(hb:Below B w w')(hg:g<B):HB w' g hs:=(hb.block g hg).trans h
theorem ss(hs:List Hdr)(i j:Nat)(v:Hdr)(hi:i<hs.length):gh (hs.set i v) j=if j=i then v else gh hs j:=by
 unfold gh
 simp only[List.getD_eq_getElem?_getD,List.getElem?_set]
 by_cases e:i=j
 ·subst e;simp[hi]
 ·have e':¬j=i:=fun h=>e h.symm
  simp[e,e']
end
def hzs(n:Nat):List Hdr:=List.replicate n ⟨none,0,0⟩
theorem BW(n:Nat):madeCells #[.slice none 0 0] n=((hzs n).map Hdr.val).toArray:=by
 apply Array.ext
 ·simp[size_madeCells,hzs]
 ·intro i h1 h2
  simp[madeCells,hzs,Hdr.val,Nat.mod_one]
end Go.Proofs.YtfnkomoickanfaaGreatDoor
