/- Own. -/
import Derived.Test.YtdjjlghlcffflaaGreatDoorX8
set_option linter.unusedVariables false
set_option linter.unusedSimpArgs false
set_option maxHeartbeats 8000000
set_option maxRecDepth 100000
namespace Go.Proofs.YtdjjlghlcffflaaGreatDoor
open Go.RowKit
structure DQ(zs ys:List Int)(cs:Nat->Int)(F:Nat->Nat->Int)(n m k M most:Nat):Prop where
 z:∀t,t<n->F k t=gx zs t
 s:∀s,s<k->∀t,F s t=F (s+1) t-(if s<=t then cs s*gx ys (t-s) else 0)
 c:∀s,s<k->cs s=F (s+1) (m+s)/gx ys m
 mb:∀i,i<=k->(∀j,i<=j->j<k->zb (cs j)<=most)->∀t,((F i t).natAbs:Int)<pw M
 cb:∀i,i<k->zb (cs i)<=most->((cs i).natAbs:Int)<pw M
def GD(F:Nat->Nat->Int)(cs:Nat->Int)(y:Int)(m k most:Nat):Prop:=(∀s,s<k->F (s+1) (m+s)%y=0/\zb (cs s)<=most)/\∀t,t<m->F 0 t=0
def XqP(F:Nat->Nat->Int)(cs:Nat->Int)(y:Int)(m k M most:Nat)(w:World)(r:Ending)(w':World):Prop:=
 ((∃u us,r=.returned (.tuple #[.slice u k k,.bool true])/\us.length=k/\PL w' u us/\aJ w.heap.size u/\(∀i,i<k->NV w.heap.size w' M (cs i) (ge us i))/\GD F cs y m k most)\/(r=.returned (.tuple #[.slice none (0:Nat) (0:Nat),.bool false])/\¬GD F cs y m k most))/\Below w.heap.size w w'
structure EF(w wr:World)(g gq m k i M:Nat)(F:Nat->Nat->Int)(cs:Nat->Int)(us vs:List Ent):Prop where
 tr:TR wr g gq (m+i) M us (F i)
 row:bA wr gq 50 vs
 vl:vs.length=k
 q:∀j,i<=j->j<k->NV (gq+1) wr M (cs j) (ge vs j)
 bw:Below w.heap.size w wr
variable {w wr v3:World} {g gq g1 g2 m k M L:Nat} {us:List Ent}
theorem yy{wc:World}{s:Nat}{F:Nat->Nat->Int}{cs:Nat->Int}{rem:Int}{vs:List Ent}{c l:Ent}(hE:EF w wr g gq m k (s+1) M F cs us vs)(hQ:QX wr wc g1 g2 (M+3) (M+L+1) (cs s) rem c l)(hb:Below wc.heap.size wc v3)(hsk:s<k)(hgl:g<gq)(hwg:w.heap.size<=gq)(hqM:((cs s).natAbs:Int)<pw M)(hM:M<80):
  TR ((v3.setCell ⟨gq,s*2,none⟩ (.bool c.s)).setCell ⟨gq,s*2+1,none⟩ (.slice c.p c.n c.c)) g gq (s+m) M us (F (s+1))/\bA ((v3.setCell ⟨gq,s*2,none⟩ (.bool c.s)).setCell ⟨gq,s*2+1,none⟩ (.slice c.p c.n c.c)) gq 50 (vs.set s c)/\
   (∀j,s<=j->j<k->NV (gq+1) ((v3.setCell ⟨gq,s*2,none⟩ (.bool c.s)).setCell ⟨gq,s*2+1,none⟩ (.slice c.p c.n c.c)) M (cs j) (ge (vs.set s c) j))/\EV ((v3.setCell ⟨gq,s*2,none⟩ (.bool c.s)).setCell ⟨gq,s*2+1,none⟩ (.slice c.p c.n c.c)) M (cs s) c/\
   (0<c.n->Off g c.p)/\Bx ((v3.setCell ⟨gq,s*2,none⟩ (.bool c.s)).setCell ⟨gq,s*2+1,none⟩ (.slice c.p c.n c.c)) g1 (.bool c.s) (.slice c.p c.n c.c)/\Below w.heap.size w ((v3.setCell ⟨gq,s*2,none⟩ (.bool c.s)).setCell ⟨gq,s*2+1,none⟩ (.slice c.p c.n c.c))/\gq<((v3.setCell ⟨gq,s*2,none⟩ (.bool c.s)).setCell ⟨gq,s*2+1,none⟩ (.slice c.p c.n c.c)).heap.size:=by
 have hB:=ae hQ.bw hb;have hlt:=hE.row.lt;have hN:=(hQ.n1.below hb).fit hqM;have hcf:=hN.frm;have hRo:=(hE.row.below hB hlt).set s c (by rw[hE.vl];exact hsk)
 have hs:=hB.size;have hlo:=hQ.lo;have hN':NV (gq+1) ((v3.setCell ⟨gq,s*2,none⟩ (.bool c.s)).setCell ⟨gq,s*2+1,none⟩ (.slice c.p c.n c.c)) M (cs s) c:=(hN.mono (by omega)).b8 (Nat.lt_succ_self _) _ _
 refine⟨⟨?_,by have:=hE.tr.len;omega,fun t ht=>?_⟩,hRo,fun j h1 h2=>?_,hN'.ev (by omega),fun h0=>gF hcf (by omega),Bb (hQ.b1.later hb) (by omega),Ie (ae hE.bw hB) hwg _ _,hRo.lt⟩
 ·exact((hE.tr.row.below hB hE.tr.row.lt).ah _ _ (by simp;omega)).ah _ _ (by simp;omega)
 ·obtain⟨h1,h2⟩:=hE.tr.ev t (by omega)
  exact⟨(h1.below hB).b8 fun h0=>(h2 h0).2,h2⟩
 ·rcases Ju s j with h|h
  ·rw[cG _ _ _ _ (by omega)]
   exact((hE.q j (by omega) h2).below hB).b8 (Nat.lt_succ_self _) _ _
  ·obtain rfl:j=s:=by omega
   rw[cR _ _ _ (by rw[hE.vl];exact hsk)]
   exact hN'
variable {ys:List Int}
theorem yw{v4 w5:World}{s:Nat}{F:Nat->Nat->Int}{cs:Nat->Int}{us' vs':List Ent}(hFs:∀t,F s t=F (s+1) t-(if s<=t then cs s*gx ys (t-s) else 0))(hT:TR w5 g gq (s+m) M us' (tkf (F (s+1)) (cs s) ys s m))(hg5:v4.grownBy w5 (some g))(hRo:bA v4 gq 50 vs')(hvl:vs'.length=k)(hNs:∀j,s<=j->j<k->NV (gq+1) v4 M (cs j) (ge vs' j))(hB:Below w.heap.size w v4)(hgl:g<gq)(hwg:w.heap.size<=g):EF w w5 g gq m k s M F cs us' vs':=by
 refine⟨⟨hT.row,by have:=hT.len;omega,fun t ht=>?_⟩,(hg5.block gq hRo.lt (by simp;omega)).trans hRo,hvl,fun j h1 h2=>(hNs j h1 h2).grown hg5 (by omega),cQ hB hg5 hB.size hwg⟩
 have h:=hT.ev t (by omega)
 have e:tkf (F (s+1)) (cs s) ys s m t=F s t:=by
  rw[tkf,hFs t];by_cases h1:s<=t
  ·rw[if_pos ⟨h1,by omega⟩,if_pos h1]
  ·rw[if_neg (by omega),if_neg h1,Int.sub_zero]
 rwa [e] at h
variable {B C K n:Nat} {p q:Option Addr} {es fs:List Ent} {zs:List Int}
theorem uE{cs:Nat->Int}{F:Nat->Nat->Int}(h:PB B w K p n es zs)(hb:PB C w L q (m+1) fs ys)(hnk:n=m+k)(hk1:1<=k)(hn:n<=1000)(hK:K<80)(hL:L<80)
  (M:Nat) (hM:M<80) (hD:DQ zs ys cs F n m k M (k+pb zs+Lib.bitLen n)):
  Calls Tryz.prog 83 #[.slice p n n,.slice q (m+1:Nat) (m+1:Nat)] w (XqP F cs (gx ys m) m k M (k+pb zs+Lib.bitLen n) w):=by
 have hpa:=h.pa (by omega)
 have hqa:=hb.pa (by omega)
 obtain⟨m1,hm1⟩:∃m1,m1=m+1:=⟨_,rfl⟩;rw[<-hm1] at hb hqa ⊢
 have hn0:¬(n:Int)=0:=by omega
 have hn0':((n:Int)==0)=false:=by rw[beq_eq_false_iff_ne];exact hn0
 have e1:(m1:Int)-1=(m:Int):=by omega
 have e2:IntKind.i64.wrap (m:Int)=(m:Int):=by rw[IntKind.wrap_i64];omega
 have e3:(n:Int)-(m:Int)=(k:Int):=by omega
 have e4:IntKind.i64.wrap (k:Int)=(k:Int):=by rw[IntKind.wrap_i64];omega
 have HN:Hid (n=m+k/\m1=m+1):=⟨hnk,hm1⟩;have hkn:k<=n:=by omega
 have hmn:m<n:=by omega
 have hmm:m<m1:=by omega
 have hm3:m1<=1001:=by omega
 clear hnk hm1;have hmk:=mg k (by omega)
 go_enter Tryz.func83,Tryz.ntmps83;go_wp2_with fail;refine(Ac hpa (by omega) (by omega)).mono ?_
 rintro r w1 ⟨g,cap,rfl,hg,hc1,hc2,hr,hb1⟩;go_wp2_with fail;have hgl:=hr.lt;have hal:=ag (o:=.cells (ca2 (ezs k)) 50) (Jt w1.heap.size w1);have hQ0:=bA.new w1 50 (ezs k);have hR0:=hr.below hal hgl;have hB0:=ae hb1 hal;generalize w1.alloc (.cells (ca2 (ezs k)) 50)=W1 at *
 obtain⟨gq,hgq⟩:∃gq,gq=w1.heap.size:=⟨_,rfl⟩;rw[<-hgq] at hQ0 hgl ⊢
 have HG:Hid (gq=w1.heap.size):=hgq;have hwg:w.heap.size<=gq:=by have:=hb1.size;omega
 clear hgq hal;have hfb:=tM (hpa.below hB0) (by omega) (by omega) k (by omega)
 have hel:=h.el;have hpb:=AJ hpa (by omega)
 refine hfb.mono ?_;rintro r w2 ⟨rfl,hb2⟩;clear hfb;have HE0:Hid (EF w w2 g gq m k k M F cs es (ezs k)):=by
  refine⟨⟨hR0.below hb2 hR0.lt,by rw[h.el,HN.out.1];exact Jr _,fun t ht=>?_⟩,hQ0.below hb2 hQ0.lt,bL k,fun j h1 h2=>absurd h1 (by omega),ae hB0 hb2⟩
  have ht':t<n:=by have:=HN.out.1;omega
  have hv:=hpa.ev t ht';refine⟨?_,fun h0=>?_⟩
  ·have h1:=(hv.below (ae hB0 hb2))
   have:=(h.ev t ht').below (ae hB0 hb2);rw[<-hD.z t ht'] at this
   exact this.fitE (hD.mb k (Jr _) (fun j h1 h2=>by omega) t)
  ·obtain⟨xs,q1,-⟩:=hv
   exact⟨q1.rd.off (by omega) (by rw[q1.len];exact h0),q1.rd.off (by omega) (by rw[q1.len];exact h0)⟩
 generalize hmost:k+pb zs+Lib.bitLen n=most at *
 have HM:=(show Hid _ from hmost)
 have HBD:Hid (DQ zs ys cs F n m k M most):=hD;have hyt:=hb.nrm;have hyl:=hb.zl;have hyne:gx ys m≠0:=by
  have:=aw ys (by omega)
  rw[hyt] at this
  rwa [show m1-1=m from by have:=HN.out.2;omega] at this
 have hmB:most<=1000000:=by
  have h1:=HM.out;have h2:=bitLen_le n;have h3:pb zs<=32*K:=hpb;omega
 clear hmost hD hR0 hQ0 hB0 hb1 hb2 hr hmk hpb h hpa;have HC2:Hid (cap<=maxLen):=hc2;have hc3:cap<=9223372036854775807:=by unfold maxLen at hc2;omega
 clear hc2;go_wp2_with fail;go_loopw [10,11,12,13] (fun kv cv lv ev wr=>∃(i:Nat) (us vs:List Ent),i<=k/\kv=.int .i64 ((i:Int)-1)/\Hid ((us.length=n/\EF w wr g gq m k i M F cs us vs)/\∀j,i<=j->j<k->F (j+1) (m+j)%gx ys m=0/\zb (cs j)<=most)) (fun kv _ _ _ _=>(intOf kv+1).toNat)
 case atStart=>exact⟨k,es,ezs k,Jr _,by go_num,⟨hel,HE0.out⟩,fun j h1 h2=>by omega⟩
 case round=>
  clear HE0;obtain⟨i,us,vs,hi,rfl,HI⟩:=hrel;rcases Jw i with h0|h0
  ·subst h0
   obtain⟨⟨hul,hE⟩,hG⟩:=HI.out;have hP0:PA wr M (some ⟨g,0,none⟩) m cap (us.take m) ((List.range m).map (F 0)):=by
    have hl:=hE.tr.len;refine⟨by simp;omega,by simp,by omega,HC2.out,fun e=>by simp at e,hE.tr.row.pl.take m,fun j hj=>?_⟩
    have h1:=(hE.tr.ev j (by omega)).1
    rw[e_ _ _ _ hj,bZ _ _ (by simpa using hj)]
    simpa using h1
   have hzt:ad ((List.range m).map (F 0))=0<->∀t,t<m->F 0 t=0:=by
    have hgx:∀t,t<m->gx ((List.range m).map (F 0)) t=F 0 t:=fun t ht=>by rw[bZ _ _ (by simpa using ht)];simp
    refine⟨fun h9 t ht=>?_,fun h9=>aX _ 0 (fun t _=>?_) (.inl rfl)⟩
    ·rw[<-hgx t ht]
     exact az _ t (by omega)
    ·rcases Ju t m with h8|h8
     ·rw[hgx t h8];exact h9 t h8
     ·exact ak _ m (by simp) t h8
   have htl:ad ((List.range m).map (F 0))<=m:=by have:=aj ((List.range m).map (F 0));simpa using this
   have HZ:Hid ((ad ((List.range m).map (F 0))=0<->∀t,t<m->F 0 t=0)/\∀j,j<k->F (j+1) (m+j)%gx ys m=0/\zb (cs j)<=most):=⟨hzt,fun j hj=>hG j (Jz _) hj⟩
   have htr:=cN M _ _ _ _ _ wr hP0 (by omega)
   have HE:Hid (EF w wr g gq m k 0 M F cs us vs):=hE;generalize ad ((List.range m).map (F 0))=tz at *
   clear hzt hP0 hE hG;have j1:(m:Int)<=(cap:Int):=by omega
   have j2:((0:Nat):Int)-1 = -1:=by omega
   rw[j2];go_wp2_with fail;refine htr.mono ?_;rintro r w5 ⟨rfl,hb5⟩;clear htr;have hcs:Hid (tz=0\/0<tz):=by show _\/_;omega
   rcases hcs.out with h9|h9
   ·subst h9
    clear hcs;go_wp2;go_ret2;obtain⟨-,h1,h2,h3,h4⟩:=HE.out;exact⟨.inl ⟨_,vs,rfl,h2,(h1.below hb5 h1.lt).pl,aY hwg,fun i hi=>((h3 i (Jz _) hi).below hb5).mono (by omega),HZ.out.2,HZ.out.1.1 (by trivial)⟩,ae h4 hb5⟩
   ·have j3:(0:Int)<(tz:Int):=by omega
    clear hcs;go_wp2;go_ret2;exact⟨.inr ⟨rfl,fun hg=>by have:=HZ.out.1.2 hg.2;omega⟩,ae HE.out.bw hb5⟩
  ·obtain⟨s,rfl⟩:∃s,i=s+1:=⟨i-1,by omega⟩
   have hk1':((s+1:Nat):Int)-1=(s:Int):=by omega
   rw[hk1'];clear hk1';obtain⟨⟨hul,hE⟩,hG⟩:=HI.out;obtain⟨ms,hms⟩:∃ms,ms=m+s:=⟨_,rfl⟩;have HMS:Hid (ms=m+s):=hms;obtain⟨x0,x1⟩:=hE.tr.row.cell ms (by have:=hE.tr.len;omega)
   have hx:=(hE.tr.ev ms (by omega)).1
   have hQA:=hqa.below hE.bw;obtain⟨b,o,hq',hd⟩:=hQA.pl (by rw[hqa.el];omega)
   subst hq';obtain⟨d0,d1⟩:=hd m (by rw[hqa.el];omega)
   have hy:=hQA.ev m hmm;have i1:IntKind.i64.wrap (ms:Int)=(ms:Int):=by rw[IntKind.wrap_i64];omega
   have i2:(ms:Int)<(n:Int):=by have:=HN.out.1;omega
   have i3:(m:Int)<(m1:Int):=by omega
   have i4:(0:Int)<=(s:Int):=by omega
   have i5:(s:Int)+(m:Int)=(ms:Int):=by omega
   have HSC:Hid (cs s=F (s+1) ms/gx ys m/\(∀j,s+1<=j->j<k->F (j+1) (m+j)%gx ys m=0/\zb (cs j)<=most)/\F (s+1) ms%gx ys m=F (s+1) (m+s)%gx ys m):=⟨by rw[hms];exact HBD.out.c s (by omega),hG,by rw[hms]⟩
   clear hms hG;clear hd hQA hE;go_wp2_with fail;go_cut [11,12,13] from 34 to 74 (fun cv lv ev wc=>∃(c l:Ent) (g1 g2:Nat),cv=.pointer (some ⟨g1,0,none⟩)/\lv=.pointer (some ⟨g2,0,none⟩)/\ev=.int .i64 0/\Hid (QX wr wc g1 g2 (M+3) (M+L+1) (cs s) (F (s+1) ms%gx ys m) c l))
   case first=>
    have hlg:g<wr.heap.size:=block_lt_of_cell x0;have hlb:b<wr.heap.size:=block_lt_of_cell d0;go_region_held3 (fun w'=>w'.cell? ⟨g,ms*2,none⟩=some (.bool (ge us ms).s)/\w'.cell? ⟨g,ms*2+1,none⟩=some (.slice (ge us ms).p (ge us ms).n (ge us ms).c)/\w'.cell? ⟨b,o+m*2,none⟩=some (.bool (ge fs m).s)/\w'.cell? ⟨b,o+m*2+1,none⟩=some (.slice (ge fs m).p (ge fs m).n (ge fs m).c)) (first|with_reducible exact⟨x0,x1,d0,d1⟩|with_reducible exact⟨y0,y1,y2,y3⟩|(refine B8 ⟨x0,x1,d0,d1⟩ hlg hlb ?_;(repeat (first|(with_reducible exact hW1)|(with_reducible exact Jt _ _)|(refine jr ?_ (Jr _))|(refine cF ?_ ?_)|(refine Below.drew ?_)));all_goals ((try simp only[Js]);(try dsimp only);omega)))
     ((go_at_call 122;refine(Bm (hx.below (by first|exact(Jt _ _).drew|exact(ag (Jt _ _)).drew|exact(ag (ag (Jt _ _))).drew)) (hy.below (by first|exact(Jt _ _).drew|exact(ag (Jt _ _)).drew|exact(ag (ag (Jt _ _))).drew)) hyne (by omega)).mono ?_;rintro r v1 ⟨c,l,rfl,hN1',hN2',hb1⟩;have hN1:=Fa hN1';have hN2:=Fa hN2';clear hN1' hN2';have hB1:=aQ hb1;have hW1:=comp (X2:=wr) (w2:=wr) (Jt _ _) (by(repeat apply ag);exact Jt _ _) hB1;have y0:=cell_later hW1 x0;have y1:=cell_later hW1 x1;have y2:=cell_later hW1 d0;have y3:=cell_later hW1 d1;obtain⟨hc2,hf2,hz2,-,-⟩:=lM hB1;obtain⟨o1,o2,o3,o4⟩:=bne hB1;have t1:=hW1.size;have t1b:=hB1.size))
    all_goals (go_wp2_with fail;go_meet)
    all_goals
     rw[<-HSC.out.1] at hN1
     refine⟨c,l,_,_,rfl,rfl,rfl,⟨?_,?_,?_,?_,?_,?_⟩⟩
     ·(repeat (first|exact lI (by simp;done)|refine eg (u:=.bool false) (v:=.slice none 0 0) ?_|refine dO ?_ (by have h1:=t1;have h2:=t1b;(try simp only[Js] at h1 h2);(try simp only[Js]);(try dsimp only);omega)|apply mE));all_goals exact⟨by simp[go_sem, *],by simp[go_sem, *],by simp[go_sem, *],by simp[go_sem, *]⟩
     ·(repeat (first|exact lI (by simp;done)|refine eg (u:=.bool false) (v:=.slice none 0 0) ?_|refine dO ?_ (by have h1:=t1;have h2:=t1b;(try simp only[Js] at h1 h2);(try simp only[Js]);(try dsimp only);omega)|apply mE));all_goals exact⟨by simp[go_sem, *],by simp[go_sem, *],by simp[go_sem, *],by simp[go_sem, *]⟩
     ·(repeat (first|apply zY|refine nQ hN1.frm (by have h1:=t1;have h2:=t1b;(try simp only[Js] at h1 h2);(try simp only[Js]);(try dsimp only);omega) ?_|refine vR hN1.ltb (by have h1:=t1;have h2:=t1b;(try simp only[Js] at h1 h2);(try simp only[Js]);(try dsimp only);omega) ?_));exact hN1.mono (by have h1:=t1;have h2:=t1b;(try simp only[Js] at h1 h2);(try simp only[Js]);(try dsimp only);omega)
     ·(repeat (first|apply zY|refine nQ hN2.frm (by have h1:=t1;have h2:=t1b;(try simp only[Js] at h1 h2);(try simp only[Js]);(try dsimp only);omega) ?_|refine vR hN2.ltb (by have h1:=t1;have h2:=t1b;(try simp only[Js] at h1 h2);(try simp only[Js]);(try dsimp only);omega) ?_));exact hN2.mono (by have h1:=t1;have h2:=t1b;(try simp only[Js] at h1 h2);(try simp only[Js]);(try dsimp only);omega)
     ·(have h1:=t1;have h2:=t1b;(try simp only[Js] at h1 h2);(try simp only[Js]);(try dsimp only);omega)
     ·(repeat (first|exact hW1|refine jr ?_ (Jr _)|refine cF ?_ (by have h1:=t1;have h2:=t1b;(try simp only[Js] at h1 h2);(try simp only[Js]);(try dsimp only);omega)))
   case rest=>
    obtain⟨c,l,g1,g2,rfl,rfl,rfl,HQ⟩:=hcut;clear x0 x1 d0 d1 hx hy;obtain⟨q0,q1,-,-⟩:=id HQ.out.b1;obtain⟨q2,q3,-,-⟩:=id HQ.out.b2;have hl:=HQ.out.n2.ev (by omega)
    have hz0:=sr hl;have hrm:Hid (F (s+1) ms%gx ys m=0\/¬F (s+1) ms%gx ys m=0):=Classical.em _;go_wp2_with fail;refine hz0.mono ?_;rintro r v2 ⟨rfl,hb2⟩;clear hz0 q2 q3 hl;rcases hrm.out with hr0|hr0
    rotate_left
    ·rw[decide_eq_false hr0]
     have HNG:Hid (¬GD F cs (gx ys m) m k most):=fun hg=>hr0 (by rw[HSC.out.2.2];exact(hg.1 s (by omega)).1)
     have HBW:Hid (Below w.heap.size w v2):=ae (ae HI.out.1.2.bw HQ.out.bw) hb2;clear hr0 hrm q0 q1 HQ hb2 HI HBD HSC;go_wp2;go_ret2;exact⟨.inr ⟨rfl,HNG.out⟩,HBW.out⟩
    rw[decide_eq_true hr0];have HR0:Hid (F (s+1) (m+s)%gx ys m=0):=by show _=_;rw[<-HSC.out.2.2];exact hr0
    clear hr0 hrm;have q4:=cell_later hb2 q0;have q5:=cell_later hb2 q1;have hcv:=(HQ.out.n1.below hb2).ev (by omega)
    have hzbs:Hid (zb (cs s)<=most\/most<zb (cs s)):=by show _\/_;omega
    go_wp2_with fail;refine(tj hcv).mono ?_;rintro r v3 ⟨rfl,hb3⟩;rcases hzbs.out with hzb0|hzb0
    rotate_left
    ·have hzb1:(most:Int)<(zb (cs s):Int):=by omega
     have HNG:Hid (¬GD F cs (gx ys m) m k most):=fun hg=>by have:=(hg.1 s (by omega)).2;omega
     have HBW:Hid (Below w.heap.size w v3):=ae (ae (ae HI.out.1.2.bw HQ.out.bw) hb2) hb3;clear hzbs q0 q1 q4 q5 HQ hb2 hb3 HI HBD HSC HR0 hcv;go_wp2;go_ret2;exact⟨.inr ⟨rfl,HNG.out⟩,HBW.out⟩
    have hzb:(zb (cs s):Int)<=(most:Int):=by omega
    have HGS:Hid (∀j,s<=j->j<k->F (j+1) (m+j)%gx ys m=0/\zb (cs j)<=most):=fun j h1 h2=>by
     rcases Ju s j with h9|h9
     ·exact HSC.out.2.1 j h9 h2
     ·obtain rfl:j=s:=by omega
      exact⟨HR0.out,hzb0⟩
    clear hzbs HSC HR0;have q6:=cell_later hb3 q4;have q7:=cell_later hb3 q5;clear q0 q1 q4 q5;obtain⟨⟨-,hE⟩,-⟩:=HI.out;have hqM:((cs s).natAbs:Int)<pw M:=HBD.out.cb s (by omega) hzb0
    have hS:=yy hE HQ.out (ae hb2 hb3) (by omega) hgl hwg hqM hM
    have hB3:=ae HQ.out.bw (ae hb2 hb3);have hro:=hE.row.below hB3 hE.row.lt;obtain⟨z0,z1⟩:=hro.cell s (by rw[hE.vl];omega)
    have f0:=hro.frozen (s*2);have f1:=hro.frozen (s*2+1);have HS:=(show Hid _ from hS)
    have hvl:(vs.set s c).length=k:=by rw[List.length_set];exact hE.vl
    have j1:(s:Int)<(k:Int):=by omega
    have j2:(ms:Int)<=(cap:Int):=by omega
    have j3:(s:Int)<=(ms:Int):=by omega
    have j4:(ms:Int)-(s:Int)=(m:Int):=by omega
    clear hE hS hB3 hro hb2 hb3 HQ hcv hqM;go_upto_region 14 with fail
    obtain⟨t1,t2,t3,t4,t5,t6,t7,t8⟩:=HS.out;clear HS z0 z1 f0 f1 q6 q7;generalize (v3.setCell ⟨gq,s*2,none⟩ (.bool c.s)).setCell ⟨gq,s*2+1,none⟩ (.slice c.p c.n c.c)=v4 at *
    obtain⟨q8,q9,-,-⟩:=id t6;obtain⟨rc,hrc⟩:∃rc,rc=cap-s:=⟨_,rfl⟩;have j5:(cap:Int)-(s:Int)=(rc:Int):=by omega
    have j6:ms-s=m:=by omega
    have j7:cap-s=rc:=by omega
    have hdr:Below v4.heap.size v4 v4.drew:=(Jt _ _).drew;have htk:=Da (g:=g) (g2:=gq) (o:=s) (r:=m) (rc:=rc) (t1.below hdr) t8 ((hqa.below t7).below hdr) (hqa.pl.off hg (by rw[hqa.el];omega)) (fun j hj h0=>by obtain⟨xs,k1,-⟩:=hqa.ev j hj;exact k1.rd.off hg (by rw[k1.len];exact h0)) (t4.below hdr) t5 (by omega) (by omega) (by omega) (by omega) (by omega) (by omega) (by omega) (by omega) (fun t h1 h2=>by
     have e:=HBD.out.s s (by omega) t
     rw[if_pos h1] at e
     rw[<-e];exact HBD.out.mb s (by omega) (fun j h3 h4=>(HGS.out j h3 h4).2) t)
    have HX:Hid (bA v4 gq 50 (vs.set s c)/\(∀j,s<=j->j<k->NV (gq+1) v4 M (cs j) (ge (vs.set s c) j))/\Below w.heap.size w v4):=⟨t2,t3,t7⟩;clear hrc t1 t2 t3 t4 t5 t6 t7 t8;go_region_with ((go_at_call 142;go_fit htk;rintro r w5 ⟨us',rfl,hul',hT,hG⟩));all_goals
     have hnx:=yw (k:=k) (HBD.out.s s (by omega)) hT (G_ hG) HX.out.1 hvl HX.out.2.1 HX.out.2.2 hgl hg
     have HNX:=(show Hid _ from hnx)
     clear hnx hT hG htk q8 q9;go_wp2;refine⟨⟨s,us',vs.set s c,by omega,rfl,⟨?_,HNX.out⟩,HGS.out⟩,?_⟩
     ·rw[hul'];exact hul
     ·simp[intOf]
def nea(m:Nat)(r:Nat):Int:=if m/2<r then (r:Int)-(m:Int) else (r:Int)
theorem yz(m r:Nat)(w:World)(hm:m<=2147483647)(hr:r<m):
  Calls Tryz.prog 173 #[.int .u64 m,.int .u64 r] w fun e w'=>e=.returned (.int .i64 (nea m r))/\w=w':=by
 have t:(m:Int).tdiv 2=((m/2:Nat):Int):=by rw[JM (by omega)];omega
 have v0:IntKind.u64.wrap ((m/2:Nat):Int)=((m/2:Nat):Int):=by rw[IntKind.wrap_u64];omega
 have v1:IntKind.i64.wrap (r:Int)=(r:Int):=by rw[IntKind.wrap_i64];omega
 have v2:IntKind.i64.wrap (m:Int)=(m:Int):=by rw[IntKind.wrap_i64];omega
 have v3:IntKind.i64.wrap ((r:Int)-(m:Int))=(r:Int)-(m:Int):=by rw[IntKind.wrap_i64];omega
 by_cases h:m/2<r
 ·have c:((m/2:Nat):Int)<(r:Int):=by omega
  have HE:Hid (nea m r=(r:Int)-(m:Int)):=by show _=_;rw[nea,if_pos h]
  go_enter Tryz.func173,Tryz.ntmps173;go_wp2;go_ret;exact⟨by rw[HE.out];rfl,rfl⟩
 ·have c:¬((m/2:Nat):Int)<(r:Int):=by omega
  have HE:Hid (nea m r=(r:Int)):=by show _=_;rw[nea,if_neg h]
  go_enter Tryz.func173,Tryz.ntmps173;go_wp2;go_ret;exact⟨by rw[HE.out];rfl,rfl⟩
theorem yk{cs:Nat->Int}{F:Nat->Nat->Int}(h:PB B w K p n es zs)(hb:PB C w L q (m+1) fs ys)(hnk:n=m+k)(hk1:1<=k)(hn:n<=1000)(hK:K<80)(hL:L<80)
  (M:Nat) (hM:M<80) (hD:DQ zs ys cs F n m k M (k+pb zs+Lib.bitLen n)):
  Calls Tryz.prog 128 #[.slice q (m+1:Nat) (m+1:Nat),.slice p n n] w fun r w'=>∃b:Bool,r=.returned (.bool b)/\Hid (b=true<->GD F cs (gx ys m) m k (k+pb zs+Lib.bitLen n))/\Below w.heap.size w w':=by
 have he:=uE h hb hnk hk1 hn hK hL M hM hD;obtain⟨Q,hQ⟩:∃Q,Q=XqP F cs (gx ys m) m k M (k+pb zs+Lib.bitLen n) w:=⟨_,rfl⟩;rw[<-hQ] at he
 have HQ:=(show Hid _ from hQ)
 obtain⟨m1,hm1⟩:∃m1,m1=m+1:=⟨_,rfl⟩;rw[<-hm1] at he ⊢
 clear hm1 hQ hb hD h hnk hn hK hL hM;go_enter Tryz.func128,Tryz.ntmps128;go_wp2_with fail;refine he.mono ?_;intro r w1 hr;rw[HQ.out] at hr
 obtain⟨h1,hb1⟩:=hr;clear he;rcases h1 with ⟨u,us,rfl,-,-,-,-,hg⟩|⟨rfl,hg⟩
 ·have HG:=(show Hid _ from hg)
  clear hg;go_wp2;go_ret;exact⟨true,rfl,⟨fun _=>HG.out,fun _=>rfl⟩,hb1⟩
 ·have HG:=(show Hid _ from hg)
  clear hg;go_wp2;go_ret;refine⟨false,rfl,⟨fun h9=>Bool.noConfusion h9,fun h9=>?_⟩,hb1⟩
  exact absurd h9 HG.out
end Go.Proofs.YtdjjlghlcffflaaGreatDoor
namespace Go.Proofs.YtdjjlghlcffflaaGreatDoor.Cr
open Go.Proofs.YtdjjlghlcffflaaGreatDoor
def dE(m:Nat)(M e r:Int):Int:=((r-e%(m:Int))%(m:Int))*((M%(m:Int))^(m-2)%(m:Int))%(m:Int)
def nxt(m:Nat)(M e r:Int):Int:=e+M*nea m (dE m M e r).toNat
variable {m:Nat}
theorem zi(hm:0<m)(M e r:Int):0<=dE m M e r/\dE m M e r<m:=
 ⟨Int.emod_nonneg _ (by omega),JK _ (by omega)⟩
theorem dQ(m x:Int):m∣x-x%m:=by
 rw[Int.emod_def];exact⟨x/m,by omega⟩
theorem Gb(m r:Nat):(m:Int)∣nea m r-(r:Int):=by
 unfold nea;split
 ·exact⟨-1,by rw[Int.mul_neg,Int.mul_one];omega⟩
 ·rw[Int.sub_self];exact Int.dvd_zero _
variable {r:Nat}
theorem Iu(h:r<m)(ho:m%2=1):2*nea m r<m/\-(m:Int)<2*nea m r:=by
 unfold nea;split<;>omega
theorem D7(hp:Gs.Pri (m:Int)){M:Int}(hM:¬(m:Int)∣M)(e r:Int):(m:Int)∣M*dE m M e r-(r-e):=by
 have hf:=Cp.BS hp (a:=M%(m:Int)) (fun h=>hM (Int.dvd_of_emod_eq_zero (by have:=Int.emod_eq_zero_of_dvd h;rwa [Int.emod_emod] at this)))
 obtain⟨a,ha⟩:=dQ (m:Int) M;obtain⟨b,hb⟩:=dQ (m:Int) e;unfold dE;generalize (M%(m:Int))^(m-2)%(m:Int)=i at *
 obtain⟨c,hc⟩:=dQ (m:Int) ((M%(m:Int))*i);rw[hf] at hc
 obtain⟨d,hd⟩:=dQ (m:Int) (r-e%(m:Int));obtain⟨f,hf2⟩:=dQ (m:Int) (((r-e%(m:Int))%(m:Int))*i);generalize (r-e%(m:Int))%(m:Int)=x at *
 generalize x*i%(m:Int)=y at *
 generalize M%(m:Int)=N at *
 generalize e%(m:Int)=E at *
 have e1:M=N+m*a:=by omega
 have e2:y=x*i-m*f:=by omega
 have e3:N*i=1+m*c:=by omega
 have e4:r-e=x+m*d-m*b:=by omega
 refine⟨x*c-N*f+a*(x*i-m*f)-d+b,?_⟩;rw[e4,e1,e2,Int.add_mul,Int.mul_sub N,show N*(x*i)=x*(N*i) from by rw[JH],e3]
 simp only[JF,Int.mul_sub,Int.mul_one,JG];have t1:x*((m:Int)*c)=m*(x*c):=by rw[JH]
 have t2:N*((m:Int)*f)=m*(N*f):=by rw[JH]
 rw[t1,t2];omega
theorem pK(hp:Gs.Pri (m:Int)){M:Int}(hM:¬(m:Int)∣M)(e r:Int):(m:Int)∣nxt m M e r-r:=by
 have h0:0<m:=by have:=hp.1;simp at this;omega
 have hb:=zi h0 M e r;have h1:=D7 hp hM e r;have h2:=Gb m (dE m M e r).toNat;have e0:(((dE m M e r).toNat:Nat):Int)=dE m M e r:=by omega
 rw[e0] at h2
 unfold nxt;obtain⟨u,hu⟩:=h1;obtain⟨v,hv⟩:=h2;generalize nea m (dE m M e r).toNat=k at *
 generalize dE m M e r=l at *
 have e1:k=l+m*v:=by omega
 refine⟨u+M*v,?_⟩;rw[e1,JF,JF,JH M];omega
theorem tZ(m:Nat)(M e r:Int):M∣nxt m M e r-e:=⟨nea m (dE m M e r).toNat,by unfold nxt;omega⟩
theorem wZ{M e r:Int}(h:dE m M e r=0):nxt m M e r=e:=by
 unfold nxt;rw[h];have:nea m (0:Int).toNat=0:=by unfold nea;simp
 rw[this,JC,Int.add_zero]
theorem Ci(h0:0<m)(ho:m%2=1){M e:Int}(r:Int)(hM:0<M)(h:2*e<M/\-M<2*e):2*nxt m M e r<M*m/\-(M*m)<2*nxt m M e r:=by
 have hb:=zi h0 M e r;obtain⟨h1,h2⟩:=Iu (m:=m) (r:=(dE m M e r).toNat) (by omega) ho
 unfold nxt;generalize nea m (dE m M e r).toNat=k at *
 have h3:M*(2*k)<=M*((m:Int)-1):=Jx (by omega) (by omega)
 have h4:M*(-((m:Int)-1))<=M*(2*k):=Jx (by omega) (by omega)
 rw[Int.mul_sub,Int.mul_one] at h3
 rw[Int.mul_neg,Int.mul_sub,Int.mul_one] at h4
 have e1:M*(2*k)=2*(M*k):=by rw[JH]
 rw[e1] at h3 h4
 generalize M*k=z at *
 generalize M*(m:Int)=y at *
 omega
variable {x y:Int}
theorem Ei{M:Int}(hx:2*x<M/\-M<2*x)(hy:2*y<M/\-M<2*y)(h:M∣x-y):x=y:=by
 obtain⟨k,hk⟩:=h;rcases Int.lt_trichotomy k 0 with h1|h1|h1
 ·have:=Jx (show k<=-1 by omega) (show 0<=M by omega)
  rw[Int.mul_neg,Int.mul_one] at this
  omega
 ·rw[h1,JC] at hk;omega
 ·have:=Jx (show 1<=k by omega) (show 0<=M by omega)
  rw[Int.mul_one] at this
  omega
end Go.Proofs.YtdjjlghlcffflaaGreatDoor.Cr
namespace Go.Proofs.YtdjjlghlcffflaaGreatDoor.Md
open Go.Proofs.YtdjjlghlcffflaaGreatDoor
variable {g:Nat}
theorem yK{p u lead:Int}{G d:Nat->Int}(h:∀t,p∣G t-G g*d t)(hl:lead=G g*u)(t:Nat):p∣lead*d t-u*G t:=by
 obtain⟨x,hx⟩:=h t;refine⟨-(u*x),?_⟩;rw[hl,Int.mul_neg,JH,<-hx,Int.mul_sub,Int.mul_right_comm,JI (G g*d t) u];omega
variable {x:Int}
theorem DY{l:List Nat}{e:Int}(hn:l.Nodup)(hp:∀p∈l,Gs.Pri (p:Int))(h:∀p∈l,(p:Int)∣e-x)
  (he:2*e<(Cp.aH l:Nat)/\-((Cp.aH l:Nat):Int)<2*e) (hx:2*x<(Cp.aH l:Nat)/\-((Cp.aH l:Nat):Int)<2*x):e=x:=
 Cr.Ei he hx (Cp.oH l hn hp h)
structure Img(l:List Nat)(x:Nat->Int)(e:Nat->Int)(n:Nat):Prop where
 nd:l.Nodup
 pri:∀p∈l,Gs.Pri (p:Int)
 odd:∀p∈l,p%2=1
 rD:∀t,t<n->2*e t<(Cp.aH l:Nat)/\-((Cp.aH l:Nat):Int)<2*e t
 same:∀t,t<n->∀p∈l,(p:Int)∣e t-x t
theorem oI:∀l:List Nat,(∀p∈l,Gs.Pri (p:Int))->0<Cp.aH l
 | [],_=>Nat.one_pos
 |p::l,h=>by
  rw[Cp.aH];have h1:=(h p (List.mem_cons_self ..)).1;exact Nat.mul_pos (by simp at h1;omega) (oI l fun q hq=>h q (List.mem_cons_of_mem _ hq))
variable {n m:Nat}
theorem Img.take{l:List Nat}{x e:Nat->Int}(h:Img l x e n)(hp:Gs.Pri (m:Int))(ho:m%2=1)(hm:m∉l){r:Nat->Int}(hr:∀t,t<n->(m:Int)∣r t-x t):
  Img (m::l) x (fun t=>Cr.nxt m (Cp.aH l:Nat) (e t) (r t)) n:=by
 have hM:¬(m:Int)∣((Cp.aH l:Nat):Int):=fun hd=>by
  obtain⟨q,h1,h2⟩:=Cp.jE hp l hd;rw[Cp.m_ hp (h.pri q h1) h2] at hm
  exact hm h1
 have hM0:=oI l h.pri;have hm0:0<m:=by have:=hp.1;simp at this;omega
 refine⟨List.nodup_cons.2 ⟨hm,h.nd⟩,fun p hp'=>?_,fun p hp'=>?_,fun t ht=>?_,fun t ht p hp'=>?_⟩
 ·rcases List.mem_cons.1 hp' with rfl|h1
  ·exact hp
  ·exact h.pri p h1
 ·rcases List.mem_cons.1 hp' with rfl|h1
  ·exact ho
  ·exact h.odd p h1
 ·have:=Cr.Ci hm0 ho (r t) (show(0:Int)<((Cp.aH l:Nat):Int) by omega) (h.rD t ht)
  rw[Cp.aH,Int.natCast_mul,JI (m:Int)];exact this
 ·rcases List.mem_cons.1 hp' with rfl|h1
  ·have h2:=Int.dvd_add (Cr.pK hp hM (e t) (r t)) (hr t ht)
   refine cast (congrArg _ ?_) h2;show _=Cr.nxt p (Cp.aH l:Nat) (e t) (r t)-x t
   omega
  ·have h2:=Int.dvd_add (Int.dvd_trans (Int.natCast_dvd_natCast.2 (Cp.jw l p h1)) (Cr.tZ m (Cp.aH l:Nat) (e t) (r t))) (h.same t ht p h1)
   refine cast (congrArg _ ?_) h2;show _=Cr.nxt m (Cp.aH l:Nat) (e t) (r t)-x t
   omega
theorem Img.is{l:List Nat}{x e:Nat->Int}(h:Img l x e n){t:Nat}(ht:t<n)(hx:2*x t<(Cp.aH l:Nat)/\-((Cp.aH l:Nat):Int)<2*x t):e t=x t:=
 DY h.nd h.pri (h.same t ht) (h.rD t ht) hx
end Go.Proofs.YtdjjlghlcffflaaGreatDoor.Md
namespace Go.Proofs.YtdjjlghlcffflaaGreatDoor
open Go.RowKit
def dG(zs ys:List Int)(m k:Nat):Nat->Nat->Int
 |0,t=>gx zs t
 |r+1,t=>dG zs ys m k r t-(if k-(r+1)<=t then dG zs ys m k r (m+(k-(r+1)))/gx ys m*gx ys (t-(k-(r+1))) else 0)
def dF(zs ys:List Int)(m k i t:Nat):Int:=dG zs ys m k (k-i) t
def dC(zs ys:List Int)(m k s:Nat):Int:=dF zs ys m k (s+1) (m+s)/gx ys m
section
variable {zs ys:List Int} {m k:Nat}
theorem nX(t:Nat):dF zs ys m k k t=gx zs t:=by rw[dF,Nat.sub_self,dG]
theorem lQ(s:Nat)(hs:s<k)(t:Nat):dF zs ys m k s t=dF zs ys m k (s+1) t-(if s<=t then dC zs ys m k s*gx ys (t-s) else 0):=by
 rw[dC,dF,dF,dF];obtain⟨r,hr⟩:∃r,k-s=r+1:=⟨k-s-1,by omega⟩
 rw[hr,show k-(s+1)=r by omega,dG,show k-(r+1)=s by omega]
theorem qL{Q:Nat->Int}(hl:ys.length<=m+1)(s:Nat):∀i,i<=s->cvf Q ys i (m+s)=0
 |0,_=>rfl
 |i+1,h=>by
  rw[cvf,qL hl s i (by omega),if_pos (by omega),ak ys (m+1) hl _ (by omega),JC,Int.add_zero]
theorem oa{Q:Nat->Int}(hl:ys.length<=m+1)(hy:gx ys m≠0)(h:∀t,gx zs t=cvf Q ys k t):∀r,r<=k->(∀t,dF zs ys m k (k-r) t=cvf Q ys (k-r) t)/\∀s,k-r<=s->s<k->dC zs ys m k s=Q s
 |0,_=>⟨fun t=>by rw[Nat.sub_zero,nX,h],fun s h1 h2=>by omega⟩
 |r+1,hr=>by
  obtain⟨h1,h2⟩:=oa hl hy h r (by omega)
  obtain⟨s,hs⟩:∃s,k-r=s+1:=⟨k-r-1,by omega⟩
  have hs':k-(r+1)=s:=by omega
  rw[hs] at h1 h2
  have h3:dC zs ys m k s=Q s:=by
   rw[dC,h1,cvf,qL hl s s (Jr _),if_pos (by omega),JD,Int.zero_add,Int.mul_ediv_cancel _ hy]
  rw[hs'];refine⟨fun t=>?_,fun s' h4 h5=>?_⟩
  ·rw[lQ s (by omega),h1,h3,cvf]
   split<;>omega
  ·rcases Ju s s' with h6|h6
   ·exact h2 s' h6 h5
   ·obtain rfl:s'=s:=by omega
    exact h3
theorem BI{Q:Nat->Int}(hl:ys.length<=m+1)(hy:gx ys m≠0)(h:∀t,gx zs t=cvf Q ys k t):(∀i,i<=k->∀t,dF zs ys m k i t=cvf Q ys i t)/\∀s,s<k->dC zs ys m k s=Q s:=by
 refine⟨fun i hi t=>?_,fun s hs=>(oa hl hy h k (Jr _)).2 s (by omega) hs⟩
 have:=(oa hl hy h (k-i) (by omega)).1 t
 rwa [show k-(k-i)=i by omega] at this
theorem yZ(hz:zs.length<=m+k)(hl:ys.length<=m+1)(hx:∀s,s<k->dF zs ys m k (s+1) (m+s)%gx ys m=0):∀r,r<=k->∀t,m+(k-r)<=t->dF zs ys m k (k-r) t=0
 |0,_,t,ht=>by rw[Nat.sub_zero,nX,ak zs (m+k) hz t (by omega)]
 |r+1,hr,t,ht=>by
  obtain⟨s,hs⟩:∃s,k-r=s+1:=⟨k-r-1,by omega⟩
  have hs':k-(r+1)=s:=by omega
  have ih:=yZ hz hl hx r (by omega)
  rw[hs] at ih
  rw[hs'] at ht ⊢
  rw[lQ s (by omega),if_pos (by omega)]
  rcases Ju (m+s) t with h|h
  ·rw[ih t (by omega),ak ys (m+1) hl _ (by omega)];simp
  ·obtain rfl:t=m+s:=by omega
   have h1:=Int.emod_add_mul_ediv (dF zs ys m k (s+1) (m+s)) (gx ys m);rw[hx s (by omega),Int.zero_add] at h1
   rw[dC,JD];generalize dF zs ys m k (s+1) (m+s)=x at *
   rw[JI] at h1
   omega
theorem BE(t:Nat):∀i,i<=k->dF zs ys m k i t=dF zs ys m k 0 t+cvf (dC zs ys m k) ys i t
 |0,_=>by rw[cvf,Int.add_zero]
 |i+1,h=>by
  have h1:=BE t i (by omega)
  rw[lQ i (by omega)] at h1
  rw[cvf];split at h1
  ·rename_i h2;rw[if_pos h2];omega
  ·rename_i h2;rw[if_neg h2];omega
theorem DC{most:Nat}(hz:zs.length<=m+k)(hl:ys.length<=m+1)(h:GD (dF zs ys m k) (dC zs ys m k) (gx ys m) m k most)(t:Nat):gx zs t=cvf (dC zs ys m k) ys k t:=by
 have h1:=BE (zs:=zs) (ys:=ys) (m:=m) t k (Jr _);rw[nX] at h1
 have h2:dF zs ys m k 0 t=0:=by
  rcases Ju t m with h3|h3
  ·exact h.2 t h3
  ·have:=yZ hz hl (fun s hs=>(h.1 s hs).1) k (Jr _) t (by omega)
   rwa [Nat.sub_self] at this
 omega
theorem DP{Q:Nat->Int}{most:Nat}(hl:ys.length<=m+1)(hy:gx ys m≠0)(h:∀t,gx zs t=cvf Q ys k t)(hb:∀s,s<k->zb (Q s)<=most):GD (dF zs ys m k) (dC zs ys m k) (gx ys m) m k most:=by
 obtain⟨h1,h2⟩:=BI hl hy h;refine⟨fun s hs=>⟨?_,by rw[h2 s hs];exact hb s hs⟩,fun t _=>by rw[h1 0 (Jz _) t];rfl⟩
 rw[h1 (s+1) hs,cvf,qL hl s s (Jr _),if_pos (by omega),JD,Int.zero_add,Int.mul_emod_left]
end
theorem CX(f:Nat->Int):∀n,Fk.sm f (n+1)=Fk.sm (fun i=>f (n-i)) (n+1)
 |0=>rfl
 |n+1=>by
  have h1:Fk.sm (fun i=>f (n+1-i)) (1+(n+1))=Fk.sm (fun i=>f (n-i)) (n+1)+f (n+1):=by
   have e:∀i,i<1+(n+1)->f (n+1-i)=(if i=0 then f (n+1) else 0)+(if 1<=i then (fun j=>f (n-j)) (i-1) else 0):=fun i hi=>by
    cases i with
    |zero=>simp
    |succ i=>simp
   have e3:Fk.sm (fun i=>if 1<=i then (fun j=>f (n-j)) (i-1) else 0) (1+(n+1))=Fk.sm (fun j=>f (n-j)) (n+1):=Fk.k9 (fun j=>f (n-j)) 1 (n+1)
   rw[Fk.aR _ e,Fk.mu,e3];have e2:Fk.sm (fun i=>if i=0 then f (n+1) else 0) (1+(n+1))=f (n+1):=by
    rw[Fk.gY 1 (n+1) (fun i h1 _=>by rw[if_neg (by omega)])]
    simp[Fk.sm]
   rw[e2,Int.add_comm]
  rw[Fk.sm,CX f n,<-h1,Nat.add_comm 1]
theorem BA(Q:Nat->Int)(b:List Int)(t:Nat):∀n,cvf Q b n t=Fk.sm (fun i=>if i<=t then Q i*gx b (t-i) else 0) n
 |0=>rfl
 |n+1=>by rw[cvf,BA Q b t n,Fk.sm]
theorem zO(f:Nat->Int)(t n:Nat)(h:∀i,n<=i->i<=t->f i=0):Fk.sm (fun i=>if i<=t then f i else 0) n=Fk.sm f (t+1):=by
 have h1:Fk.sm (fun i=>if i<=t then f i else 0) (n+(t+1))=Fk.sm (fun i=>if i<=t then f i else 0) n:=Fk.gY n (t+1) (fun i h1 _=>by
  show(if i<=t then f i else 0)=0
  split
  ·exact h i h1 (by assumption)
  ·rfl)
 have h2:Fk.sm (fun i=>if i<=t then f i else 0) (t+1+n)=Fk.sm (fun i=>if i<=t then f i else 0) (t+1):=Fk.gY (t+1) n (fun i h1 _=>by rw[if_neg (by omega)])
 rw[<-h1,Nat.add_comm,h2];exact Fk.aR _ (fun i hi=>by rw[if_pos (by omega)])
variable {ys:List Int} {m k:Nat}
theorem ID{Q:Nat->Int}(hl:ys.length<=m+1)(hQ:∀i,k<=i->Q i=0)(t:Nat):Fk.pr (gx ys) Q m t=cvf Q ys k t:=by
 have h1:Fk.pr (gx ys) Q m t=Fk.sm (fun i=>if i<=t then gx ys i*Q (t-i) else 0) (m+1):=by
  rw[Fk.pr];refine Fk.aR _ (fun i _=>?_)
  rw[Fk.qk];split
  ·rfl
  ·rw[JC]
 rw[h1,zO (fun i=>gx ys i*Q (t-i)) t (m+1) (fun i h2 _=>by show gx ys i*Q (t-i)=0;rw[ak ys (m+1) hl i h2,Int.zero_mul]),BA,zO (fun i=>Q i*gx ys (t-i)) t k (fun i h2 _=>by show Q i*gx ys (t-i)=0;rw[hQ i h2,Int.zero_mul]),CX]
 refine Fk.aR _ (fun i hi=>?_)
 show gx ys (t-i)*Q (t-(t-i))=Q i*gx ys (t-i)
 rw[show t-(t-i)=i by omega,JI]
variable {zs:List Int} {n:Nat}
theorem xy{Q:Nat->Int}(hk:1<=k)(hk13:k<=13)(hm12:m<=12)(hn:n=m+k)(hzl:zs.length<=n)(hl:ys.length<=m+1)(hy:gx ys m≠0)(hQ:∀i,k<=i->Q i=0)(h:∀t,gx zs t=cvf Q ys k t)(s:Nat)(hs:s<k):zb (Q s)<=k+pb zs+Lib.bitLen n:=by
 have hbl:=nS (x:=(n:Int)) (by omega) (by omega)
 rw[Int.toNat_natCast] at hbl
 have hA:∀t,((gx zs t).natAbs:Int)<2^pb zs:=fun t=>by
  rcases Ju t zs.length with h1|h1
  ·exact Int.lt_of_lt_of_le (lC (gx zs t)).2.1 (eQ (FN zs t h1))
  ·rw[ak zs zs.length (Jr _) t h1]
   exact Int.pow_pos (by decide)
 have hp:(0:Int)<2^pb zs:=Int.pow_pos (by decide)
 have hfb:=Fk.BQ (b:=gx ys) (q:=Q) (d:=k-1) (e:=m) (c:=Lib.bitLen n) (A:=2^pb zs-1) (by omega) (by omega) (fun j hj=>hQ j (by omega)) hy (by omega) (fun t _=>by
  rw[ID hl hQ t,<-h t];have:=hA t;omega) (by rw[show k-1+m+1=n by omega];exact hbl.2.2.2.1) s (by omega)
 refine nG (Int.lt_of_le_of_lt hfb ?_);have hc:(0:Int)<2^(k-1+1+Lib.bitLen n):=Int.pow_pos (by decide)
 have e:(2:Int)^(k+pb zs+Lib.bitLen n)=2^(k-1+1+Lib.bitLen n)*2^pb zs:=by
  rw[<-Int.pow_add];congr 1;omega
 rw[e];exact Int.mul_lt_mul_of_pos_left (by omega) hc
variable {z:Int}
theorem Ba{b Q:Nat}(h:zb z<=b)(hQ:b<=32*Q):(z.natAbs:Int)<pw Q:=by
 have h1:=(lC z).2.1;have h2:(2:Int)^zb z<=2^(32*Q):=eQ (by omega)
 have h3:(2:Int)^(32*Q)=pw Q:=by rw[Int.pow_mul];rfl
 omega
variable {L D most:Nat}
theorem Fs{A Q:Nat}(hk:k<=1000)(hz:∀t,((gx zs t).natAbs:Int)<pw A)(hy:∀t,((gx ys t).natAbs:Int)<pw L)(hq:most<=32*Q)(h1:A<=D)(h2:Q+L<=D):DQ zs ys (dC zs ys m k) (dF zs ys m k) (m+k) m k (D+1) most:=by
 have hpD:=bu D;refine⟨fun t _=>nX t,lQ,fun s _=>rfl,fun i hi hs t=>?_,fun i _ hi=>Int.lt_of_lt_of_le (Ba hi hq) (aW (by omega))⟩
 have step:∀r,r<=k-i->∀t,((dF zs ys m k (k-r) t).natAbs:Int)<=(r+1)*pw D:=by
  intro r;induction r with
  |zero=>
   intro _ t;rw[Nat.sub_zero,nX];have:=hz t;have:=aW h1;simp;omega
  |succ r ih=>
   intro hr t;obtain⟨s,hs'⟩:∃s,k-r=s+1:=⟨k-r-1,by omega⟩
   have ih':=ih (by omega) t
   rw[hs'] at ih'
   rw[show k-(r+1)=s by omega,lQ s (by omega)]
   have h3:((if s<=t then dC zs ys m k s*gx ys (t-s) else 0:Int).natAbs:Int)<=pw D:=by
    split
    ·have h4:=zS (Ba (hs s (by omega) (by omega)) hq) (hy (t-s))
     have h5:=aW h2;omega
    ·simp;omega
   have e:((r+1:Nat)+1:Int)*pw D=(r+1:Int)*pw D+pw D:=by rw[Int.add_mul,Int.one_mul];rfl
   rw[e];generalize (if s<=t then dC zs ys m k s*gx ys (t-s) else 0:Int)=x at *
   generalize dF zs ys m k (s+1) t=y at *
   omega
 have h3:=step (k-i) (Jr _) t;rw[show k-(k-i)=i by omega] at h3
 have h4:(((k-i:Nat):Int)+1)*pw D<4294967296*pw D:=Int.mul_lt_mul_of_pos_right (by omega) hpD
 rw[bE];omega
end Go.Proofs.YtdjjlghlcffflaaGreatDoor
