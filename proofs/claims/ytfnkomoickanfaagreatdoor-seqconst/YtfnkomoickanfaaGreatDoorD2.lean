/- Own. -/
import Derived.Test.YtfnkomoickanfaaGreatDoorVt
set_option linter.unusedVariables false
set_option linter.unusedSimpArgs false
set_option maxHeartbeats 8000000
set_option maxRecDepth 100000
namespace Go.Proofs.YtfnkomoickanfaaGreatDoor
open Go.RowKit
abbrev top(zs:List Int):Nat→Int:=fun k=>gx zs (zs.length-1-k)
structure ChI(w wr:World)(n j:Nat)(a b:Int)(zs:List Int)(ps:Option Addr)(ns:Nat)(ess:List Ent)(xs:List Int)(pp:Option Addr)(np:Nat)(ew:List Ent)(ws:List Int):Prop where
 s:PR wr 80 ps ns ns ess xs
 q:PR wr 4 pp np np ew ws
 tx:ad xs=ns
 tw:ad ws=np
 sx:∀t,gx xs t=Ds.S a b (top zs) (n-j) t
 wx:∀t,gx ws t=Ds.W (n-j) t
 bw:Below w.heap.size w wr
theorem lE{xs:List Int}{k:Nat}(h:ad xs=xs.length)(h0:∀t,k≤t→gx xs t=0):xs.length≤k:=by
 rcases Nat.lt_or_ge k xs.length with h1|h1
 ·exfalso
  have h2:=cd xs (by omega)
  rw[h] at h2
  exact h2 (h0 _ (by omega))
 ·exact h1
theorem iy{xs:List Int}{k c c':Nat}{l l':Int}(h:c=0→∀t,t<k→gx xs t=0∨aG (gx xs t)=l)(hc:c'=0→c=0)(hl:c'=0→l'=l∨l=0)(hk:c'=0→gx xs k=0∨aG (gx xs k)=l'):c'=0→∀t,t<k+1→gx xs t=0∨aG (gx xs t)=l':=fun h0 t ht=>by
 rcases Nat.lt_or_ge t k with h1|h1
 ·rcases h (hc h0) t h1 with h2|h2
  ·exact .inl h2
  ·rcases hl h0 with h3|h3
   ·exact .inr (h2.trans h3.symm)
   ·rcases cc (gx xs t) with ⟨h4,-⟩|⟨h4,h5⟩|⟨h4,h5⟩
    ·exact .inl h4
    ·rw[h2,h3] at h5;exact absurd h5 (by decide)
    ·rw[h2,h3] at h5;exact absurd h5 (by decide)
 ·obtain rfl:t=k:=by omega
  exact hk h0
structure ChS(w wr:World)(xs:List Int)(k c:Nat)(l:Int):Prop where
 l3:l=0∨l=1∨l = -1
 ev:c=0→∀t,t<k→gx xs t=0∨aG (gx xs t)=l
 bw:Below w.heap.size w wr
theorem tT{w:World}{N M K L:Nat}{p:Option Addr}{n nc:Nat}{es:List Ent}{zs:List Int}{a b:Int}{e f:Ent}(h:PR w N p n nc es zs)(ha:RE w M a e)(hb:RE w M b f)(hn:n≤30)(hN:N≤100)(hN4:4≤N)(hM:M≤100)(hM4:4≤M)(hX:∀i,((gx zs i).natAbs:Int)<pw K)(hA:(a.natAbs:Int)<pw L)(hB:(b.natAbs:Int)<pw L)(hL:1≤L)(hK:K+1+n*(L+1)+L≤40):
  Calls Tryz.prog 150 #[.slice p n nc,.agg #[.bool e.s,.slice e.p e.n e.c],.agg #[.bool f.s,.slice f.p f.n f.c]] w fun r w'=>∃c:Nat,c≤n∧r=.returned (.int .i64 (c:Int))∧(c=0→(∀j,0≤Ds.S a b (top zs) n j)∨(∀j,Ds.S a b (top zs) n j≤0))∧Below w.heap.size w w':=by
 have HX:Hid (PR w N p n nc es zs∧RE w M a e∧RE w M b f):=⟨h,ha,hb⟩
 have HB:Hid ((∀i,((gx zs i).natAbs:Int)<pw K)∧(a.natAbs:Int)<pw L∧(b.natAbs:Int)<pw L∧K+1+n*(L+1)+L≤40):=⟨hX,hA,hB,hK⟩
 have hel:=h.el
 clear h ha hb hX hA hB hK
 go_enter Tryz.func150,Tryz.ntmps150
 go_wp2_with fail
 have hal:Below w.heap.size w ((w.alloc (.cells #[.bool e.s,.slice e.p e.n e.c] 43)).alloc (.cells #[.bool f.s,.slice f.p f.n f.c] 43)):=af (af (Below.refl _ _))
 have hX0:Bx ((w.alloc (.cells #[.bool e.s,.slice e.p e.n e.c] 43)).alloc (.cells #[.bool f.s,.slice f.p f.n f.c] 43)) w.heap.size (.bool e.s) (.slice e.p e.n e.c):=(Bx.new _ _ _ rfl).alloc _
 have hX1:Bx ((w.alloc (.cells #[.bool e.s,.slice e.p e.n e.c] 43)).alloc (.cells #[.bool f.s,.slice f.p f.n f.c] 43)) (w.heap.size+1) (.bool f.s) (.slice f.p f.n f.c):=Bx.new _ _ _ (by rw[World.size_alloc])
 generalize (w.alloc (.cells #[.bool e.s,.slice e.p e.n e.c] 43)).alloc (.cells #[.bool f.s,.slice f.p f.n f.c] 43)=W at *
 refine(gZ 1 _ (by decide) (by decide)).mono ?_
 rintro r v1 ⟨u,rfl,hu,hF1,hb1⟩
 obtain⟨k0,k1,-,-⟩:=(hX0.later hb1).alloc (.cells #[.bool u.s,.slice u.p u.n u.c] 43)
 obtain⟨l0,l1,-,-⟩:=(hX1.later hb1).alloc (.cells #[.bool u.s,.slice u.p u.n u.c] 43)
 have hX2:Bx (v1.alloc (.cells #[.bool u.s,.slice u.p u.n u.c] 43)) v1.heap.size (.bool u.s) (.slice u.p u.n u.c):=Bx.new _ _ _ rfl
 have hB1:=af (o:=.cells #[.bool u.s,.slice u.p u.n u.c] 43) (ae hal hb1)
 have hu1:=hu.below (af (o:=.cells #[.bool u.s,.slice u.p u.n u.c] 43) (Below.refl _ _))
 have he1:=HX.out.2.1.below hB1
 have hf1:=HX.out.2.2.below hB1
 clear hX0 hX1 hal hb1 hu hF1
 go_wp2_with fail
 have hP4:PR ((v1.alloc (.cells #[.bool u.s,.slice u.p u.n u.c] 43)).alloc (.cells #[.bool e.s,.slice e.p e.n e.c,.bool f.s,.slice f.p f.n f.c] 43)) M (some ⟨v1.heap.size+1,0,none⟩) 2 2 [e,f] [a,b]:=by
  have h9:=p_ (v1.alloc (.cells #[.bool u.s,.slice u.p u.n u.c] 43)) (.bool e.s) (.slice e.p e.n e.c) (.bool f.s) (.slice f.p f.n f.c) 43
  rw[World.size_alloc] at h9
  exact vj h9.1 h9.2.1 h9.2.2.1 h9.2.2.2 (he1.below (af (Below.refl _ _))) (hf1.below (af (Below.refl _ _)))
 have hX3:=hX2.alloc (.cells #[.bool e.s,.slice e.p e.n e.c,.bool f.s,.slice f.p f.n f.c] 43)
 have hu2:=hu1.below (af (o:=.cells #[.bool e.s,.slice e.p e.n e.c,.bool f.s,.slice f.p f.n f.c] 43) (Below.refl _ _))
 have hB2:=af (o:=.cells #[.bool e.s,.slice e.p e.n e.c,.bool f.s,.slice f.p f.n f.c] 43) hB1
 clear k0 k1 l0 l1 hX2 hu1 hB1 he1 hf1
 generalize (v1.alloc (.cells #[.bool u.s,.slice u.p u.n u.c] 43)).alloc (.cells #[.bool e.s,.slice e.p e.n e.c,.bool f.s,.slice f.p f.n f.c] 43)=V at *
 generalize v1.heap.size=gu at *
 refine(eU M _ 2 2 [e,f] [a,b] V hP4 (by decide)).mono ?_
 rintro r v2 ⟨rfl,hb2⟩
 have hUp:=hP4.trm.below hb2
 obtain⟨c0,c1,-,-⟩:=hX3.later hb2
 have hu3:=hu2.below hb2
 have hB3:=ae hB2 hb2
 clear hP4 hX3 hu2 hB2 hb2
 have hDn:PR (v2.alloc (.cells #[.bool u.s,.slice u.p u.n u.c,.bool u.s,.slice u.p u.n u.c] 43)) 4 (some ⟨v2.heap.size,0,none⟩) 2 2 [u,u] [1,1]:=by
  have h9:=p_ v2 (.bool u.s) (.slice u.p u.n u.c) (.bool u.s) (.slice u.p u.n u.c) 43
  exact vj h9.1 h9.2.1 h9.2.2.1 h9.2.2.2 (hu3.below (af (Below.refl _ _))) (hu3.below (af (Below.refl _ _)))
 have hUp1:=hUp.below (af (o:=.cells #[.bool u.s,.slice u.p u.n u.c,.bool u.s,.slice u.p u.n u.c] 43) (Below.refl _ _))
 have hB4:=af (o:=.cells #[.bool u.s,.slice u.p u.n u.c,.bool u.s,.slice u.p u.n u.c] 43) hB3
 have htl:ad [a,b]≤2:=ao [a,b]
 have hD:=qE p n nc (v2.alloc (.cells #[.bool u.s,.slice u.p u.n u.c,.bool u.s,.slice u.p u.n u.c] 43)) (by omega)
 clear hUp hu3 hB3
 generalize hnu:ad [a,b]=nu at *
 go_wp2_with fail
 refine hD.mono ?_
 rintro r v3 ⟨rfl,hb3⟩
 have hUp3:=hUp1.below hb3
 have hDn3:=hDn.below hb3
 have hB5:=ae hB4 hb3
 generalize v2.heap.size=gd at *
 clear hUp1 hDn hB4 hb3 hD c0 c1
 have hO:=AV (some ⟨v3.heap.size,0,none⟩) 1 1 [1] (v3.alloc (.cells #[.int .i64 1] 2)) rfl (by decide) (DE v3 1 _) (fun j=>by
  match j with
  |0=>simp[gx]
  |j+1=>simp[gx])
 go_wp2_with fail
 refine hO.mono ?_
 rintro r v4 ⟨pp,np,ew,rfl,hQ,-,htq,hb4⟩
 have hB6:=ae hB5 (comp (X2:=v3) (w2:=v3) (Below.refl _ _) (by(repeat apply af);exact Below.refl _ _) hb4)
 have HU:Hid (PR v4 M (some ⟨gu+1,0,none⟩) nu nu ([e,f].take nu) (tr [a,b])∧PR v4 4 (some ⟨gd,0,none⟩) 2 2 [u,u] [1,1]∧Below w.heap.size w v4):=by
  have h8:Below v3.heap.size v3 v4:=comp (X2:=v3) (w2:=v3) (Below.refl _ _) (by(repeat apply af);exact Below.refl _ _) hb4
  exact⟨hUp3.below h8,hDn3.below h8,hB6⟩
 have HT:Hid ((∀i t,i≤n→((Ds.S a b (top zs) i t).natAbs:Int)<pw (K+1+n*(L+1)))∧(∀t,((gx (tr [a,b]) t).natAbs:Int)<pw L)∧K+1+n*(L+1)+L≤40∧zs.length=n):=by
  refine⟨fun i t hi=>?_,fun t=>?_,HB.out.2.2.2,HX.out.1.zl⟩
  ·refine Int.lt_of_lt_of_le (Ds.S_lt HB.out.2.1 HB.out.2.2.1 (fun k=>HB.out.1 _) i (by omega) t) (bD ?_)
   have:=Nat.mul_le_mul_right (L+1) hi
   omega
  ·obtain⟨g0,g1,g2⟩:=Ds.Bj a b
   match t with
   |0=>rw[g0];exact HB.out.2.1
   |1=>rw[g1];exact HB.out.2.2.1
   |t+2=>rw[g2 _ (by omega)];exact aU _
 have HQ:Hid (PR v4 4 pp np np ew (tr [1])∧ad (tr [1])=np):=⟨hQ,htq⟩
 clear hUp3 hDn3 hB5 hB6 hO hQ htq hb4 hnu
 generalize hTT:K+1+n*(L+1)=T at *
 clear hTT HB
 generalize v3.heap.size=gs at *
 go_wp2_with fail
 go_loopw [10,12,13] (fun sv qv iv wr=>∃(j:Nat) (ps:Option Addr) (ns:Nat) (ess:List Ent) (xs:List Int) (pp:Option Addr) (np:Nat) (ew:List Ent) (ws:List Int),j≤n∧iv=.int .i64 ((j:Int)-1)∧sv=.slice ps ns ns∧qv=.slice pp np np∧Hid (ChI v4 wr n j a b zs ps ns ess xs pp np ew ws)) (fun _ _ iv _=>(intOf iv+1).toNat)
 case atStart=>
  refine⟨n,none,0,[],[],pp,np,ew,tr [1],Nat.le_refl _,by go_num,rfl,rfl,?_⟩
  refine⟨sP _ _,HQ.out.1,rfl,HQ.out.2,fun t=>?_,fun t=>?_,Below.refl _ _⟩
  ·rw[Nat.sub_self]
   simp[gx,Ds.S]
  ·rw[Nat.sub_self,gS]
   show gx [1] t=if t=0 then 1 else 0
   cases t<;>simp[gx]
 case round=>
  obtain⟨j,ps,ns,ess,xs,pp,np,ew,ws,hj,rfl,rfl,rfl,H⟩:=hrel
  have hcs:Hid (j=0∨∃i,j=i+1):=by cases j with|zero=>exact .inl rfl|succ j=>exact .inr ⟨j,rfl⟩
  rcases hcs.out with rfl|⟨i,rfl⟩
  ·clear hcs
   have hns:ns≤n:=by
    have h1:=lE (H.out.tx.trans H.out.s.zl.symm) (k:=n) (fun t ht=>by rw[H.out.sx];exact Ds.kV _ _ _ _ _ (by omega))
    rw[H.out.s.zl] at h1
    exact h1
   obtain⟨wo,hwo⟩:∃x,x=wr:=⟨_,rfl⟩
   subst hwo
   have e0:((0:Nat):Int)-1 = -1:=rfl
   rw[e0]
   clear e0
   go_wp2_with fail
   go_loopw [14,15,16] (fun nv lv iv w2=>∃(k c:Nat) (l:Int),k≤ns∧c≤k∧nv=.int .i64 (c:Int)∧lv=.int .i64 l∧iv=.int .i64 (k:Int)∧Hid (ChS wo w2 xs k c l)) (fun _ _ iv _=>ns-(intOf iv).toNat)
   case atStart=>exact⟨0,0,0,Nat.zero_le _,Nat.zero_le _,by go_num,by go_num,by go_num,.inl rfl,fun _ t ht=>absurd ht (Nat.not_lt_zero _),Below.refl _ _⟩
   case round=>
    obtain⟨k,c,l,hk,hc,rfl,rfl,rfl,I⟩:=hrel
    rcases Nat.lt_or_ge k ns with hlt|hge
    ·have hP:=H.out.s.below I.out.bw
     obtain⟨b0,o0,hp,hc0⟩:=hP.pl (by have:=H.out.s.el;omega)
     subst hp
     obtain⟨c0,c1⟩:=hc0 k (by have:=H.out.s.el;omega)
     have he:=hP.ev k hlt
     have hsg:=pO he
     clear hP hc0 he
     have i1:(k:Int)<(ns:Int):=by omega
     go_wp2_with fail
     refine hsg.mono ?_
     rintro r w3 ⟨rfl,hb3⟩
     have hB:=ae I.out.bw hb3
     clear hsg c0 c1 hb3
     rcases cc (gx xs k) with ⟨hz,hs⟩|⟨hz,hs⟩|⟨hz,hs⟩
     ·rw[hs]
      have HN:Hid (ChS wo w3 xs (k+1) c l):=⟨I.out.l3,iy I.out.ev id (fun _=>.inl rfl) (fun _=>.inl hz),hB⟩
      clear I H hB hs hz
      go_wp2
      go_roundw
      case rel=>exact⟨k+1,c,l,by omega,by omega,rfl,rfl,by go_num,HN.out⟩
      case measure=>simp[intOf];omega
     ·rw[hs]
      rcases I.out.l3 with hl|hl|hl
      ·subst hl
       have HN:Hid (ChS wo w3 xs (k+1) c (-1)):=⟨by decide,iy I.out.ev id (fun _=>.inr rfl) (fun _=>.inr hs),hB⟩
       clear I H hB hs hz
       go_wp2
       go_roundw
       case rel=>exact⟨k+1,c,-1,by omega,by omega,rfl,by go_num,by go_num,HN.out⟩
       case measure=>simp[intOf];omega
      ·subst hl
       have HN:Hid (ChS wo w3 xs (k+1) (c+1) (-1)):=⟨by decide,fun h=>absurd h (Nat.succ_ne_zero _),hB⟩
       clear I H hB hs hz
       go_wp2
       go_roundw
       case rel=>exact⟨k+1,c+1,-1,by omega,by omega,by go_num,by go_num,by go_num,HN.out⟩
       case measure=>simp[intOf];omega
      ·subst hl
       have HN:Hid (ChS wo w3 xs (k+1) c (-1)):=⟨by decide,iy I.out.ev id (fun _=>.inl rfl) (fun _=>.inr hs),hB⟩
       clear I H hB hs hz
       go_wp2
       go_roundw
       case rel=>exact⟨k+1,c,-1,by omega,by omega,rfl,by go_num,by go_num,HN.out⟩
       case measure=>simp[intOf];omega
     ·rw[hs]
      rcases I.out.l3 with hl|hl|hl
      ·subst hl
       have HN:Hid (ChS wo w3 xs (k+1) c (1)):=⟨by decide,iy I.out.ev id (fun _=>.inr rfl) (fun _=>.inr hs),hB⟩
       clear I H hB hs hz
       go_wp2
       go_roundw
       case rel=>exact⟨k+1,c,1,by omega,by omega,rfl,by go_num,by go_num,HN.out⟩
       case measure=>simp[intOf];omega
      ·subst hl
       have HN:Hid (ChS wo w3 xs (k+1) c (1)):=⟨by decide,iy I.out.ev id (fun _=>.inl rfl) (fun _=>.inr hs),hB⟩
       clear I H hB hs hz
       go_wp2
       go_roundw
       case rel=>exact⟨k+1,c,1,by omega,by omega,rfl,by go_num,by go_num,HN.out⟩
       case measure=>simp[intOf];omega
      ·subst hl
       have HN:Hid (ChS wo w3 xs (k+1) (c+1) (1)):=⟨by decide,fun h=>absurd h (Nat.succ_ne_zero _),hB⟩
       clear I H hB hs hz
       go_wp2
       go_roundw
       case rel=>exact⟨k+1,c+1,1,by omega,by omega,by go_num,by go_num,by go_num,HN.out⟩
       case measure=>simp[intOf];omega
    ·obtain rfl:k=ns:=by omega
     have hF:(c=0→(∀j,0≤Ds.S a b (top zs) n j)∨(∀j,Ds.S a b (top zs) n j≤0)):=fun h0=>by
      have hx:∀t,gx xs t=Ds.S a b (top zs) n t:=H.out.sx
      have h1:∀t,gx xs t=0∨aG (gx xs t)=l:=fun t=>by
       rcases Nat.lt_or_ge t k with h2|h2
       ·exact I.out.ev h0 t h2
       ·exact .inl (aJ _ k (by rw[H.out.s.zl];exact Nat.le_refl _) t h2)
      rcases I.out.l3 with hl|hl|hl
      ·refine .inl fun t=>?_
       rw[←hx]
       rcases h1 t with h2|h2
       ·omega
       ·rcases cc (gx xs t) with ⟨h3,h4⟩|⟨h3,h4⟩|⟨h3,h4⟩<;>omega
      ·refine .inl fun t=>?_
       rw[←hx]
       rcases h1 t with h2|h2
       ·omega
       ·rcases cc (gx xs t) with ⟨h3,h4⟩|⟨h3,h4⟩|⟨h3,h4⟩<;>omega
      ·refine .inr fun t=>?_
       rw[←hx]
       rcases h1 t with h2|h2
       ·omega
       ·rcases cc (gx xs t) with ⟨h3,h4⟩|⟨h3,h4⟩|⟨h3,h4⟩<;>omega
     have HF:Hid ((c=0→(∀j,0≤Ds.S a b (top zs) n j)∨(∀j,Ds.S a b (top zs) n j≤0))∧Below w.heap.size w wr):=⟨hF,ae HU.out.2.2 (ae H.out.bw I.out.bw)⟩
     clear hF H I
     go_wp2
     go_ret
     exact⟨c,by omega,rfl,HF.out⟩
  ·clear hcs
   have hW:=ae HU.out.2.2 H.out.bw
   have hP:=HX.out.1.below hW
   obtain⟨b0,o0,hp,hc⟩:=hP.pl (by omega)
   subst hp
   obtain⟨c0,c1⟩:=hc i (by omega)
   have he:=hP.ev i (by omega)
   have hns:ns≤30:=by
    have h1:=lE (H.out.tx.trans H.out.s.zl.symm) (k:=n) (fun t ht=>by rw[H.out.sx];exact Ds.kV _ _ _ _ _ (by omega))
    rw[H.out.s.zl] at h1
    omega
   have hnp:np≤31:=by
    have h1:=lE (H.out.tw.trans H.out.q.zl.symm) (k:=n+1) (fun t ht=>by rw[H.out.wx];exact Ds.kW _ _ (by omega))
    rw[H.out.q.zl] at h1
    omega
   have i0:((i+1:Nat):Int)-1=(i:Int):=by omega
   have i1:(i:Int)<(n:Int):=by omega
   have i2:(0:Int)≤(i:Int):=by omega
   have hm1:=qF (K:=T) (L:=L) H.out.s (HU.out.1.below H.out.bw) (H.out.tx.trans H.out.s.zl.symm) (by rw[aZ,au]) (by omega) (by omega) (by decide) (by omega) (fun t=>by rw[H.out.sx];exact HT.out.1 _ _ (by omega)) HT.out.2.1 (by have:=HT.out.2.2.1;omega)
   rw[i0]
   clear hP hc
   go_wp2_with fail
   refine hm1.mono ?_
   rintro r w1 ⟨p1,n1,e1,rfl,hR1,-,ht1,hb1⟩
   have d0:=cell_later hb1 c0
   have d1:=cell_later hb1 c1
   have hn1:n1≤100:=by
    rw[←hR1.zl]
    refine Nat.le_trans (lenm _ _) ?_
    rw[H.out.s.zl,(HU.out.1).zl]
    omega
   have hm2:=ur (H.out.q.below hb1) (he.below hb1) (by omega) (by decide) (by omega)
   clear hm1 c0 c1
   go_wp2_with fail
   refine hm2.mono ?_
   rintro r w2 ⟨p2,n2,e2,rfl,hR2,-,ht2,hb2⟩
   have hn2:n2≤100:=by
    have h1:=hR2.zl
    rw[au] at h1
    have h2:=ao (ws.map (gx zs i * ·))
    rw[List.length_map,H.out.q.zl] at h2
    omega
   have hm3:=y6 (hR1.below hb2) hR2 (by omega) (by omega) (by have:=HT.out.2.2.1;omega) (by omega) (by omega) (by omega)
   clear hm2 d0 d1
   go_wp2_with fail
   refine hm3.mono ?_
   rintro r w3 ⟨p3,n3,e3,rfl,hR3,-,ht3,hb3⟩
   have hV:=ae (ae hb1 hb2) hb3
   have hm4:=qF (K:=1) (L:=1) (H.out.q.below hV) ((HU.out.2.1.below H.out.bw).below hV) (H.out.tw.trans H.out.q.zl.symm) (by rfl) (by omega) (by decide) (by decide) (by decide) (fun t=>by rw[H.out.wx];exact Ds.zI (by omega) t) (fun t=>by
    match t with
    |0=>exact(by decide:((gx [1,1] 0).natAbs:Int)<pw 1)
    |1=>exact(by decide:((gx [1,1] 1).natAbs:Int)<pw 1)
    |t+2=>rw[Ds.Bi.2.2 _ (by omega)];exact aU _) (by decide)
   clear hm3
   go_wp2_with fail
   refine hm4.mono ?_
   rintro r w4 ⟨p4,n4,e4,rfl,hR4,-,ht4,hb4⟩
   clear hm4
   have hnx:ChI v4 w4 n i a b zs p3 n3 e3 (tr (pz (· + ·) (fo xs (tr [a,b])) (tr (ws.map (gx zs i * ·))))) p4 n4 e4 (fo ws [1,1]):=by
    have e9:n-(i+1)+1=n-i:=by omega
    have e8:top zs (n-(i+1))=gx zs i:=by
     show gx zs (zs.length-1-(n-(i+1)))=_
     rw[HT.out.2.2.2]
     congr 1
     omega
    have hs:∀t,gx (tr (pz (· + ·) (fo xs (tr [a,b])) (tr (ws.map (gx zs i * ·))))) t=Ds.S a b (top zs) (n-i) t:=fun t=>by
     have h1:=Ds.CO (a:=a) (b:=b) (c:=top zs) H.out.sx H.out.wx t
     rw[e8,e9] at h1
     exact h1
    have hw:∀t,gx (fo ws [1,1]) t=Ds.W (n-i) t:=fun t=>by
     have h1:=Ds.CV H.out.wx t
     rw[e9] at h1
     exact h1
    refine⟨((hR3.tight (K:=T) (fun t=>by rw[hs];exact HT.out.1 _ _ (by omega))).wide (by have:=HT.out.2.2.1;omega)).below hb4,(hR4.tight (K:=1) (fun t=>by rw[hw];exact Ds.zI (by omega) t)).wide (by decide),ht3,ht4,hs,hw,ae H.out.bw (ae hV hb4)⟩
   have HN:=(show Hid _ from hnx)
   clear hnx hR1 hR2 hR3 hR4 he hV hb1 hb2 hb3 hb4 H hW ht1 ht2 ht3 ht4
   go_wp2
   refine⟨⟨i,p3,n3,e3,_,p4,n4,e4,_,by omega,by go_num,rfl,rfl,HN.out⟩,by simp[intOf]⟩
end Go.Proofs.YtfnkomoickanfaaGreatDoor
