/- Own. -/
import Derived.Test.YtdjjlghlcffflaaGreatDoorOa
import Derived.Lib.TrailingZeros
import Derived.Defers
import Derived.Recover
import Derived.Laws.Pointers
import Derived.RangeFuncNested
import Derived.RangeFuncBound
import Derived.RangeFuncCalls
import Derived.RangeFuncLeaves
import Derived.Shelf.Abstract
import Derived.Shelf.RegionOpen
import Derived.OwnWalkIn
import Derived.TacticsInMore
import Derived.LoopNIn
import Derived.LoopIn
import Derived.RegionTactic
set_option linter.unusedVariables false
set_option linter.unusedSimpArgs false
set_option maxHeartbeats 8000000
set_option maxRecDepth 100000
namespace Go.Proofs.YtdjjlghlcffflaaGreatDoor
open Go.RowKit
theorem uJ:(Tryz.prog.info? 50).map (fun i=>(i.zero,i.size,i.bytes))=some (some (.agg #[.bool false,.slice none 0 0]),2,32):=by kernel_rfl
def CutP(n E L:Nat)(w:World)(e:Ending)(w':World):Prop:=
 ∃q m mc fs zs,e=.returned (.slice q m mc)/\PA w' L q m mc fs zs/\m=min n E/\aJ w.heap.size q/\(∀j,j<m->0<(ge fs j).n->aJ w.heap.size (ge fs j).p)/\Below w.heap.size w w'
variable {w:World} {p:Option Addr} {n nc:Nat} {xs:List Int}
theorem F1(h:AI w p n nc xs)(m:Nat)(hm:m<=n):AI w p m nc (xs.take m):=
 ⟨by have:=h.len;simp;omega,by have:=h.cap;omega,h.bnd,by have:=h.sml;omega,h.rd.take m,an h.u m⟩
variable {es0:List Ent}
theorem vQ(h:PZ w p n nc es0)(E L:Nat)(hE:E<=1000)(hL:L<=24):
  Calls Tryz.prog 7 #[.slice p n nc,.int .i64 E,.int .i64 L] w (CutP n E L w):=by
 obtain⟨i0,hi,hzz⟩:=Option.map_eq_some_iff.1 uJ;simp only[Prod.mk.injEq] at hzz
 obtain⟨hz0,hz1,hz2⟩:=hzz;have HI:Hid (Tryz.prog.info? 50=some i0/\i0.zero=some (.agg #[.bool false,.slice none 0 0])/\i0.size=2/\i0.bytes=32):=⟨hi,hz0,hz1,hz2⟩;have HX:Hid (PZ w p n nc es0):=h;have hnm:n<=9223372036854775807:=by have h1:=h.cap;have h2:=h.bnd;unfold maxLen at h2;omega
 clear h hi hz0 hz1 hz2;go_enter Tryz.func7,Tryz.ntmps7;go_wp2_with fail;go_loopw [7,8,9] (fun qv iv av wr=>∃(k:Nat) (es:List Ent) (zs:List Int),k<=min n E/\iv=.int .i64 k/\Hid (es.length=k/\LG w.heap.size 50 (fun w z e=>EV w L z e) wr qv es zs/\(∀j,j<k->0<(ge es j).n->aJ w.heap.size (ge es j).p)/\Below w.heap.size w wr)) (fun _ iv _ _=>min n E-(intOf iv).toNat)
 case atStart=>exact⟨0,[],[],Jz _,by go_num,rfl,LG.nil _ _ _ _,fun j hj=>absurd hj (by omega),Jt _ _⟩
 case round=>
  obtain⟨k,es,zs,hk,rfl,H⟩:=hrel;rcases Ju k (min n E) with hlt|hge
  ·obtain⟨hel,hLR,hfr,hB⟩:=H.out
   have hPA:=HX.out.below hB;obtain⟨b,o,hp,hc⟩:=hPA.pl (by rw[hPA.el];omega)
   subst hp;obtain⟨c0,c1⟩:=hc k (by rw[hPA.el];omega)
   obtain⟨xs,r1,r2,r3,r4,r5,r6⟩:=hPA.ev k (by omega)
   have i1:(k:Int)<(n:Int):=by omega
   have i2:(k:Int)<(E:Int):=by omega
   clear hel hLR hB hc hPA hfr;go_wp2_with fail;refine(FP (ge es0 k).s (ge es0 k).p (ge es0 k).n (ge es0 k).c xs wr r1 r2 r3 r4 r5 r6).mono ?_;rintro e w1 ⟨p1,n1,c1',rfl,hA1,hn1,hF1,hb1⟩;generalize (ge es0 k).s=s1;clear c0 c1 r1 r2 r3 r4 r5 r6;have hcap1:=hA1.cap;have hbnd1:=hA1.bnd;unfold maxLen at hbnd1
   obtain⟨hi,hz0,hz1,hz2⟩:=HI.out;rcases Ju L n1 with hgt|hle
   ·have j1:(L:Int)<(n1:Int):=by omega
    have j2:(L:Int)<=(c1':Int):=by omega
    have HA1:Hid (AI w1 p1 L c1' ((xs.take 24).take L)):=F1 hA1 L (by omega)
    clear hA1;go_upto_region 8 with fail
    have hX2:Bx (w1.alloc (.cells #[.bool s1,.slice p1 L c1'] 50)) w1.heap.size (.bool s1) (.slice p1 L c1'):=Bx.new _ _ _ rfl;have hal:=ag (o:=.cells #[.bool s1,.slice p1 L c1'] 50) (Jt w1.heap.size w1);have hb2:=ae hb1 hal;have hA2:=HA1.out.below hal;clear HA1 hal;generalize w1.alloc (.cells #[.bool s1,.slice p1 L c1'] 50)=W2 at *
    obtain⟨q0,q1,-,-⟩:=hX2;have HE:Hid (EV W2 L (aq s1 ((xs.take 24).take L)) ⟨s1,p1,L,c1'⟩):=⟨((xs.take 24).take L),hA2,rfl,by show L<=L;omega⟩
    have hown0:=cD H.out.2.1.own hb2;rw[H.out.1] at hown0
    have HO:Hid (W2.ownsRow w.heap.size 50 2 u7 k (fl es)):=hown0;have hsz:w.heap.size<=W2.heap.size:=JA H.out.2.2.2.size hb2.size;have HF:Hid (aJ wr.heap.size p1):=hF1;clear hown0 hA2 hF1 hb1;go_wp2_with (refine wpList_append_lies _ rfl _ _ 25 rfl w.heap.size 50 i0 (.agg #[.bool false,.slice none 0 0]) 2 32 Tryz.underlying25 hi hz0 hz1 hz2 rfl (by decide) u7 k (fl es) rfl (HO.out.alloc _) ⟨W2.heap.size,0,none⟩ 1 1 [.bool s1,.slice p1 L c1'] rfl rfl ?_ (fun x hx=>by simp at hx;rcases hx with rfl|rfl<;>rfl) (by decide) (by unfold maxLen;omega) (by omega) (by simp;omega) _ rfl ?_;exact World.news_of_block (heap_alloc_new W2 _);intro g cap w3 hown3 hgrow3 hat3 hlt3;have hB3:Below w.heap.size w w3:=((ae H.out.2.2.2 hb2).alloc hsz _).grown hgrow3 (by simp;omega) (fun q hq=>(HO.out.lt q hq).1);have HA:Hid (LG w.heap.size 50 (fun w z e=>EV w L z e) w3 (.slice (some ⟨g,0,none⟩) (k+1) cap) (es++[⟨s1,p1,L,c1'⟩]) (zs++[aq s1 ((xs.take 24).take L)])):=wS (gA _) H.out.1 H.out.2.1 hb2 HE.out HF.out hown3 hgrow3 hat3;clear hown3 hgrow3 hat3)
    refine⟨⟨k+1,es++[⟨s1,p1,L,c1'⟩],zs++[aq s1 ((xs.take 24).take L)],by omega,by go_num,by have:=H.out.1;simp;omega,HA.out,fun j hj h0=>?_,hB3⟩,by simp[intOf];omega⟩
    have hel:=H.out.1;rcases Ju j k with h|h
    ·rw[cy _ _ _ (by omega)] at h0 ⊢
     exact H.out.2.2.1 j h h0
    ·obtain rfl:j=es.length:=by omega
     rw[fH];exact fun a ha=>JA H.out.2.2.2.size (HF.out a ha)
   ·have j1:¬(L:Int)<(n1:Int):=by omega
    have HA1:Hid (AI w1 p1 n1 c1' (xs.take 24)):=hA1;clear hA1;go_upto_region 8 with fail
    have hX2:Bx (w1.alloc (.cells #[.bool s1,.slice p1 n1 c1'] 50)) w1.heap.size (.bool s1) (.slice p1 n1 c1'):=Bx.new _ _ _ rfl;have hal:=ag (o:=.cells #[.bool s1,.slice p1 n1 c1'] 50) (Jt w1.heap.size w1);have hb2:=ae hb1 hal;have hA2:=HA1.out.below hal;clear HA1 hal;generalize w1.alloc (.cells #[.bool s1,.slice p1 n1 c1'] 50)=W2 at *
    obtain⟨q0,q1,-,-⟩:=hX2;have HE:Hid (EV W2 L (aq s1 (xs.take 24)) ⟨s1,p1,n1,c1'⟩):=⟨(xs.take 24),hA2,rfl,by show n1<=L;omega⟩
    have hown0:=cD H.out.2.1.own hb2;rw[H.out.1] at hown0
    have HO:Hid (W2.ownsRow w.heap.size 50 2 u7 k (fl es)):=hown0;have hsz:w.heap.size<=W2.heap.size:=JA H.out.2.2.2.size hb2.size;have HF:Hid (aJ wr.heap.size p1):=hF1;clear hown0 hA2 hF1 hb1;go_wp2_with (refine wpList_append_lies _ rfl _ _ 25 rfl w.heap.size 50 i0 (.agg #[.bool false,.slice none 0 0]) 2 32 Tryz.underlying25 hi hz0 hz1 hz2 rfl (by decide) u7 k (fl es) rfl (HO.out.alloc _) ⟨W2.heap.size,0,none⟩ 1 1 [.bool s1,.slice p1 n1 c1'] rfl rfl ?_ (fun x hx=>by simp at hx;rcases hx with rfl|rfl<;>rfl) (by decide) (by unfold maxLen;omega) (by omega) (by simp;omega) _ rfl ?_;exact World.news_of_block (heap_alloc_new W2 _);intro g cap w3 hown3 hgrow3 hat3 hlt3;have hB3:Below w.heap.size w w3:=((ae H.out.2.2.2 hb2).alloc hsz _).grown hgrow3 (by simp;omega) (fun q hq=>(HO.out.lt q hq).1);have HA:Hid (LG w.heap.size 50 (fun w z e=>EV w L z e) w3 (.slice (some ⟨g,0,none⟩) (k+1) cap) (es++[⟨s1,p1,n1,c1'⟩]) (zs++[aq s1 (xs.take 24)])):=wS (gA _) H.out.1 H.out.2.1 hb2 HE.out HF.out hown3 hgrow3 hat3;clear hown3 hgrow3 hat3)
    refine⟨⟨k+1,es++[⟨s1,p1,n1,c1'⟩],zs++[aq s1 (xs.take 24)],by omega,by go_num,by have:=H.out.1;simp;omega,HA.out,fun j hj h0=>?_,hB3⟩,by simp[intOf];omega⟩
    have hel:=H.out.1;rcases Ju j k with h|h
    ·rw[cy _ _ _ (by omega)] at h0 ⊢
     exact H.out.2.2.1 j h h0
    ·obtain rfl:j=es.length:=by omega
     rw[fH];exact fun a ha=>JA H.out.2.2.2.size (HF.out a ha)
  ·obtain rfl:k=min n E:=by omega
   obtain⟨hel,hLR,hfr,hB⟩:=H.out;have hzl:=hLR.zl;obtain⟨q,cap,hv,hc1,hc2,hPL,hF,hpn⟩:=hLR.pl;have hev:=hLR.ev;subst hv;rw[hel] at hev hc1 hzl ⊢
   have HR:Hid (CutP n E L w (.returned (.slice q (min n E:Nat) cap)) wr):=⟨q,_,cap,es,zs,rfl,⟨hel,hzl,hc1,hc2,hpn,hPL,hev⟩,rfl,hF,hfr,hB⟩;have hcs:Hid (¬(min n E:Nat)<n\/((min n E:Nat)<n/\¬(min n E:Nat)<E)):=by show _\/_;omega
   generalize min n E=m at *
   clear H hLR hev hPL hF hfr hB hge;rcases hcs.out with h1|⟨h1,h2⟩
   ·have i1:¬(m:Int)<(n:Int):=by omega
    clear h1;go_wp2;go_ret;exact HR.out
   ·have i1:(m:Int)<(n:Int):=by omega
    have i2:¬(m:Int)<(E:Int):=by omega
    clear h1 h2;go_wp2;go_ret;exact HR.out
variable {N K:Nat} {z:Int} {e:Ent}
theorem Jk(h:RE w N z e)(hN:N<=1000)(hK:N<=2*K):
  Calls Tryz.prog 62 #[.agg #[.bool e.s,.slice e.p e.n e.c]] w fun r w'=>∃u:Ent,r=.returned (.agg #[.bool u.s,.slice u.p u.n u.c])/\EV w' K z u/\aJ w.heap.size u.p/\Below w.heap.size w w':=by
 obtain⟨⟨ds,h1,h2,h3⟩,h4⟩:=h;refine(xF e.s e.p e.n e.c ds w h1.len (by omega) h1.rd h1.u).mono ?_
 rintro r w' ⟨p',m,cap,g1,g2,g3,g4,g5⟩;have hm:=g3.out;refine⟨⟨e.s,p',m,cap⟩,g1,⟨jn ds m,g2,?_,by show m<=K;omega⟩,g4,g5⟩
 show aq e.s (jn ds m)=z
 rw[<-h2,aq,aF,Db,Jv (by rw[h1.len];omega)]
theorem Ds(args:Array Value)(w':World):Sem.run Tryz.prog (callFunc 82 args) w'=.ok (.enter 82 args) w':=by
 have h1:¬Tryz.f82.name = "runtime.NumGoroutine" := of_decide_eq_false (by kernel_rfl)
 have h2:¬Tryz.f82.body=none:=fun h=>by cases h
 simp only[callFunc,Tryz.func82,go_sem];simp[h1,h2,go_sem]
variable {L m mc:Nat} {q:Option Addr} {es fs:List Ent} {zs ys:List Int}
theorem E_(h:PA w K p n nc es zs)(k:PA w L q m mc fs ys)(hn:n<=1000000)(hm:m<=1000000)(hM:K+L+1<=1000):
  Calls Tryz.prog 38 #[.slice p n nc,.slice q m mc] w (PnP (tr (pz (· - ·) (tr zs) (tr ys))) (K+L+1) w):=by
 have hc:=fun w' (h:PA w' K p n nc es zs) (k:PA w' L q m mc fs ys)=>xX h k hn hm hM 82 Ds (· - ·) (fun w' x y e f h k=>Bo h k)
 go_enter Tryz.func38,Tryz.ntmps38;go_wp2_with fail;refine(hc w h k).mono ?_;rintro e w1 ⟨p1,n1,e1,rfl,h1,h2⟩;clear hc;go_wp2;go_ret;exact⟨p1,n1,e1,rfl,h1,h2⟩
theorem xH(w:World)(z:Int)(t:Nat):Rd (w.alloc (.cells #[.int .i64 z] t)) (some ⟨w.heap.size,0,none⟩) .i64 [z]:=fun _=>⟨w.heap.size,0,rfl,fun j hj=>by
 obtain rfl:j=0:=by simp at hj;omega
 simp[go_sem,gx]⟩
variable {E E' B T:Nat} {h:Hdr}
theorem EY.le{N':Nat}{z:List Int}(k:EY N E w B T z h)(hN:N<=N')(hE:E<=E'):EY N' E' w B T z h:=by
 obtain⟨fs,a,b,c,d,e⟩:=k;exact⟨fs,⟨a.el,a.zl,a.cap,a.bnd,a.pl,fun j hj=>(a.ev j hj).wide hN⟩,b,c,JA d hE,e⟩
variable {D:Nat}
theorem HR.le{N':Nat}{z:List (List Int)}(k:HR D (EY N E) w B T z h)(hN:N<=N')(hE:E<=E'):HR D (EY N' E') w B T z h:=by
 obtain⟨hs,a⟩:=k;exact⟨hs,a.el,a.tl,a.cap,a.bnd,a.pn,a.few,a.hl,a.at_,fun j hj=>(a.ev j hj).le hN hE⟩
theorem mU(l:List (List Int)):(otr l).length=aE l:=by
 have:=iW l;simp[otr];omega
theorem DW(c:Int)(ys:List Int)(t:Nat):gx (ax [c] ys) t=c*gx ys t:=by
 have h1:ps [c] ys 1 t=c*gx ys t:=by simp[ps,gx]
 unfold ax;by_cases h:([c]:List Int).length=0\/ys.length=0
 ·rw[if_pos h]
  have h2:ys=[]:=JB (by simpa using h)
  subst h2;simp[gx]
 ·rw[if_neg h]
  rcases Ju t ([c].length+ys.length-1) with h2|h2
  ·rw[pE _ _ _ h2]
   exact h1
  ·rw[ak _ ([c].length+ys.length-1) (by rw[cx];exact Jr _) t h2]
   rw[ak ys ys.length (Jr _) t (by simp at h2;omega),JC]
end Go.Proofs.YtdjjlghlcffflaaGreatDoor
namespace Go.Proofs.YtdjjlghlcffflaaGreatDoor.Gs
open Go.Proofs.YtdjjlghlcffflaaGreatDoor
variable {n:Nat} {x:Int}
theorem fX:(n:Int)∣x<->n∣x.natAbs:=by
 rw[<-Int.natAbs_dvd_natAbs,Int.natAbs_natCast]
def Pri(p:Int):Prop:=1<p.natAbs/\∀x y:Int,p∣x*y->p∣x\/p∣y
theorem sI{p:Nat}(h1:1<p)(hm:∀d,1<d->d∣p->d=p):Pri (p:Int):=by
 refine⟨by simpa using h1,fun x y h=>?_⟩
 by_cases hx:(p:Int)∣x
 ·exact .inl hx
 ·refine .inr ?_
  have hg:Nat.gcd p x.natAbs=1:=by
   rcases Nat.lt_trichotomy (Nat.gcd p x.natAbs) 1 with h2|h2|h2
   ·have h3:Nat.gcd p x.natAbs=0:=by omega
    have h4:=Nat.gcd_eq_zero_iff.1 h3;omega
   ·exact h2
   ·exfalso
    have h3:=hm _ h2 (Nat.gcd_dvd_left p x.natAbs);have h4:=Nat.gcd_dvd_right p x.natAbs;rw[h3] at h4
    exact hx (fX.2 h4)
  have h5:p∣x.natAbs*y.natAbs:=by
   rw[<-Int.natAbs_mul];exact fX.1 h
  exact fX.2 ((show Nat.Coprime p x.natAbs from hg).dvd_of_dvd_mul_left h5)
theorem mL:∀n:Nat,1<n->∃p:Nat,p∣n/\Pri (p:Int):=fun n=>by
 induction n using Nat.strongRecOn with
 |_ n ih=>
  intro hn;by_cases h:∀d,1<d->d∣n->d=n
  ·exact⟨n,Nat.dvd_refl n,sI hn h⟩
  ·obtain⟨d,hd⟩:=Classical.not_forall.1 h
   obtain⟨h1,hd⟩:=Classical.not_imp.1 hd;obtain⟨h2,h3⟩:=Classical.not_imp.1 hd;obtain⟨p,h4,h5⟩:=ih d (by have:=Nat.le_of_dvd (by omega) h2;omega) h1
   exact⟨p,Nat.dvd_trans h4 h2,h5⟩
end Go.Proofs.YtdjjlghlcffflaaGreatDoor.Gs
namespace Go.Proofs.YtdjjlghlcffflaaGreatDoor.Cp
open Go.Proofs.YtdjjlghlcffflaaGreatDoor
def sq(m:Nat):Nat->Nat->Bool
 |0,_=>false
 |s+1,a=>a==m-1||sq m s (a*a%m)
def ps(m b:Nat):Bool:=let a:=b^((m-1)/2^Lib.ctz 64 (m-1))%m;a==1||sq m (Lib.ctz 64 (m-1)) a
def ip(m:Nat):Bool:=ps m 2&&(ps m 3&&(ps m 5&&ps m 7))
def fp(m:Nat):Nat->Nat->Nat->Nat->Nat
 |0,z,_,_=>z
 |k+1,z,a,n=>bif n%2==1 then fp m k (z*a%m) (a*a%m) (n/2) else fp m k z (a*a%m) (n/2)
theorem Ep(x m:Nat)(j:Nat):(x%m)^j%m=x^j%m:=(Nat.pow_mod x j m).symm
theorem Av(m:Nat):∀(k z a n:Nat),n<2^k->z<m->fp m k z a n=z*a^n%m
 |0,z,a,n,h,hz=>by
  obtain rfl:n=0:=by simp at h;omega
  rw[fp,Nat.pow_zero,Nat.mul_one,Nat.mod_eq_of_lt hz]
 |k+1,z,a,n,h,hz=>by
  have h2:n/2<2^k:=by rw[Nat.pow_succ] at h;omega
  have e2:∀u:Nat,u*(a*a%m)^(n/2)%m=u*a^(2*(n/2))%m:=fun u=>by
   rw[Nat.mul_mod,Ep,<-Nat.mul_mod,Nat.pow_mul,show a^2=a*a from by rw[Nat.pow_succ,Nat.pow_succ,Nat.pow_zero,Nat.one_mul]]
  rw[fp];rcases Nat.mod_two_eq_zero_or_one n with hp|hp
  ·rw[hp,show((0:Nat)==1)=false from rfl,cond_false,Av m k _ _ _ h2 hz,e2]
   rw[show 2*(n/2)=n by omega]
  ·rw[hp,show((1:Nat)==1)=true from rfl,cond_true,Av m k _ _ _ h2 (Nat.mod_lt _ (by omega)),e2,Nat.mul_mod,Nat.mod_mod,<-Nat.mul_mod,Nat.mul_assoc,
    <-Nat.pow_succ',show(2*(n/2)).succ=n by omega]
def psF(m b:Nat):Bool:=(fun s=>(fun a=>a==1||sq m s a) (fp m 32 1 b ((m-1)/2^s))) (Lib.ctz 64 (m-1))
variable {m:Nat}
theorem sK{b:Nat}(h1:1<m)(h:m<4294967296):psF m b=ps m b:=by
 unfold psF ps;have hd:(m-1)/2^Lib.ctz 64 (m-1)<=m-1:=Nat.div_le_self _ _;show(fp m 32 1 b ((m-1)/2^Lib.ctz 64 (m-1))==1||sq m (Lib.ctz 64 (m-1)) (fp m 32 1 b ((m-1)/2^Lib.ctz 64 (m-1))))=_
 rw[Av m 32 1 b _ (by omega) h1,Nat.one_mul]
def ipF(m:Nat):Bool:=bif psF m 2 then bif psF m 3 then bif psF m 5 then psF m 7 else false else false else false
theorem B4(h1:1<m)(h:m<4294967296):ipF m=ip m:=by
 unfold ipF ip;rw[sK h1 h,sK h1 h,sK h1 h,sK h1 h]
 cases ps m 2<;>cases ps m 3<;>cases ps m 5<;>cases ps m 7<;>rfl
def pM:Nat->Nat->Nat
 |0,lo=>lo
 |n+1,lo=>pM n lo*pM n (lo+2^n)
theorem oc:∀(n lo d:Nat),lo<=d->d<lo+2^n->d∣pM n lo
 |0,lo,d,h1,h2=>by
  obtain rfl:d=lo:=by simp at h2;omega
  exact Nat.dvd_refl _
 |n+1,lo,d,h1,h2=>by
  rw[pM];rcases Ju d (lo+2^n) with h|h
  ·exact Nat.dvd_trans (oc n lo d h1 h) (Nat.dvd_mul_right _ _)
  ·exact Nat.dvd_trans (oc n (lo+2^n) d h (by rw[Nat.pow_succ] at h2;omega)) (Nat.dvd_mul_left _ _)
end Go.Proofs.YtdjjlghlcffflaaGreatDoor.Cp
namespace Go.Proofs.YtdjjlghlcffflaaGreatDoor.Sk
open Go.Proofs.YtdjjlghlcffflaaGreatDoor
theorem oi(c:Int)(l:List Int):gx (c::l) 0=c:=rfl
theorem oh(c:Int)(l:List Int)(t:Nat):gx (c::l) (t+1)=gx l t:=rfl
def sm:Nat->(Nat->Int)->Int
 |0,_=>0
 |n+1,F=>sm n F+F n
variable {n:Nat}
theorem aR{F G:Nat->Int}(h:∀i,i<n->F i=G i):sm n F=sm n G:=by
 induction n with
 |zero=>rfl
 |succ n ih=>rw[sm,sm,ih fun i hi=>h i (by omega),h n (by omega)]
theorem jd(n:Nat){F:Nat->Int}(h:∀i,i<n->F i=0):sm n F=0:=by
 induction n with
 |zero=>rfl
 |succ n ih=>rw[sm,ih fun i hi=>h i (by omega),h n (by omega)];rfl
theorem sZ(n:Nat)(k m:Int)(F G:Nat->Int):sm n (fun i=>k*F i+m*G i)=k*sm n F+m*sm n G:=by
 induction n with
 |zero=>simp[sm]
 |succ n ih=>rw[sm,sm,sm,ih];grind
theorem mu(n:Nat)(F G:Nat->Int):sm n (fun i=>F i+G i)=sm n F+sm n G:=by
 have:=sZ n 1 1 F G;simpa using this
theorem de(n:Nat)(k:Int)(F:Nat->Int):sm n (fun i=>k*F i)=k*sm n F:=by
 have:=sZ n k 0 F F;simpa using this
theorem zM(n:Nat)(F:Nat->Int):sm (n+1) F=F 0+sm n fun i=>F (i+1):=by
 induction n with
 |zero=>simp[sm]
 |succ n ih=>rw[sm,ih,sm];omega
variable {N:Nat}
theorem gY{F:Nat->Int}(h:∀i,n<=i->F i=0)(hN:n<=N):sm N F=sm n F:=by
 induction N with
 |zero=>rw[show n=0 by omega]
 |succ N ih=>
  rcases Ju n (N+1) with h1|h1
  ·rw[sm,ih (by omega),h N (by omega),Int.add_zero]
  ·rw[show n=N+1 by omega]
theorem fL(n m:Nat)(F:Nat->Nat->Int):sm n (fun i=>sm m (F i))=sm m fun j=>sm n fun i=>F i j:=by
 induction n with
 |zero=>simp only[sm];rw[jd];exact fun _ _=>rfl
 |succ n ih=>simp only[sm];rw[ih,<-mu]
def fx(g:Nat->Int):Nat->Int
 |0=>0
 |t+1=>g t
theorem DI{a b:Nat->Int}(h:∀i,a i=b i)(t:Nat):fx a t=fx b t:=by
 rw[funext h]
def cv(a g:Nat->Int)(t:Nat):Int:=sm (t+1) fun i=>a i*g (t-i)
theorem a_{a b g h:Nat->Int}(h1:∀i,a i=b i)(h2:∀i,g i=h i)(t:Nat):cv a g t=cv b h t:=by
 rw[funext h1,funext h2]
theorem iM(k m:Int)(a b g:Nat->Int)(t:Nat):cv (fun i=>k*a i+m*b i) g t=k*cv a g t+m*cv b g t:=by
 rw[cv,cv,cv,<-sZ];exact aR fun i _=>by grind
theorem tD(k m:Int)(a g h:Nat->Int)(t:Nat):cv a (fun i=>k*g i+m*h i) t=k*cv a g t+m*cv a h t:=by
 rw[cv,cv,cv,<-sZ];exact aR fun i _=>by grind
theorem ji{a:Nat->Int}(h:∀i,a i=0)(g:Nat->Int)(t:Nat):cv a g t=0:=jd _ fun i _=>by rw[h i,Int.zero_mul]
theorem Ad{g:Nat->Int}(h:∀i,g i=0)(a:Nat->Int)(t:Nat):cv a g t=0:=jd _ fun i _=>by rw[h,JC]
theorem Fp(a g:Nat->Int)(t:Nat):cv (fx a) g t=fx (cv a g) t:=by
 cases t with
 |zero=>simp[cv,fx,sm]
 |succ t=>
  rw[cv,zM,fx,fx,cv,Int.zero_mul,Int.zero_add];exact aR fun i _=>by rw[fx,Nat.add_sub_add_right]
theorem Gi(c:Int)(l:List Int)(t:Nat):gx (c::l) t=(if t=0 then c else 0)+fx (gx l) t:=by
 cases t with
 |zero=>rw[oi,fx];simp
 |succ t=>rw[oh,fx];simp
theorem wb(c:Int)(g:Nat->Int)(t:Nat):cv (fun i=>if i=0 then c else 0) g t=c*g t:=by
 rw[cv,zM,if_pos rfl,Nat.sub_zero,jd,Int.add_zero];intro i _;rw[if_neg (by omega),Int.zero_mul]
theorem yY(c:Int)(l:List Int)(g:Nat->Int)(t:Nat):cv (gx (c::l)) g t=c*g t+fx (cv (gx l) g) t:=by
 have h:∀i,gx (c::l) i=1*(if i=0 then c else 0)+1*fx (gx l) i:=fun i=>by rw[Gi];omega
 rw[a_ h (fun _=>rfl),iM,wb,Fp,Int.one_mul,Int.one_mul]
theorem cS(t:Nat):gx [] t=0:=by simp[gx]
theorem kg(b g:Nat->Int):∀(l:List Int) (t:Nat),cv (gx l) (cv b g) t=cv (cv (gx l) b) g t
 | [],t=>by rw[ji cS,ji];exact fun i=>ji cS _ _
 |c::l,t=>by
  rw[yY,DI (kg b g l)];have h:∀i,cv (gx (c::l)) b i=c*b i+1*fx (cv (gx l) b) i:=fun i=>by rw[yY,Int.one_mul]
  rw[a_ h (fun _=>rfl),iM,Fp,Int.one_mul]
def ta(u v w e:Int):Nat->Nat->Int
 |0,t=>if t=0 then e else 0
 |i+1,t=>u*fx (ta u v w e i) t+(v*ta u v w e i t+w*(if t=i then 1 else 0))
theorem BW(l:List Int)(t:Nat)(h:l.length<=t):gx l t=0:=by simp[gx,List.getElem?_eq_none h]
def lof(n:Nat)(F:Nat->Int):List Int:=(List.range n).map F
theorem BX(n:Nat)(F:Nat->Int)(h:∀t,n<=t->F t=0)(t:Nat):gx (lof n F) t=F t:=by
 rcases Ju t n with h1|h1
 ·simp[gx,lof,h1]
 ·rw[h t h1,BW _ _ (by simpa [lof] using h1)]
end Go.Proofs.YtdjjlghlcffflaaGreatDoor.Sk
namespace Go.Proofs.YtdjjlghlcffflaaGreatDoor
open Go.RowKit
def LastsB{α:Type}(E:World->Nat->Nat->α->Hdr->Prop):Prop:=
 ∀{w w':World} {B T:Nat} {z:α} {h:Hdr},E w B T z h->T<=w.heap.size->(∀b,B<=b->b<T->w'.heap[b]?=w.heap[b]?)->E w' B T z h
section
variable {lo base:Nat} {w w1 w2:World}
end
open Go.RowKit Go.Shelf
attribute [local go_sem] Oper.semAt_some
def idx(zs:List Int)(k:Nat):List Nat:=(List.range k).filter fun j=>gx zs j≠0
attribute [local go_sem] Oper.semAt_some
def Told(zs:List Int)(len K B:Nat)(pre:List (Nat×Ent))(x:Nat×Ent)(W:World):Prop:=pre.map (·.1)=idx zs x.1/\x.1<len/\¬gx zs x.1=0/\NV B W K (gx zs x.1) x.2
attribute [local go_sem] Oper.semAt_some
structure Dk(lo base N:Nat)(A B:World):Prop where
 os:B.os=A.os
 tape:B.tape=A.tape
 output:B.output=A.output
 size:A.heap.size<=B.heap.size
 block:∀k,k<N->(k<lo\/base<=k)->B.heap[k]?=A.heap[k]?
variable {lo base N:Nat}
theorem Dk.set{A B:World}(h:Dk lo base N A B)(a:Addr)(v:Value)(ha:(lo<=a.block/\a.block<base)\/N<=a.block):Dk lo base N A (B.setCell a v):=
 ⟨h.os,h.tape,h.output,by simpa [World.setCell] using h.size,fun i hi hx=>by
  rw[heap_setCell_other B a i v (fun e=>by subst e;omega)]
  exact h.block i hi hx⟩
section
variable {P:Program} {ops:Array Oper} {Q:Exit->Act->World->Prop} {md:Region.Mode}
theorem rW{l:Array Bool}{i:Nat}(h:l.getD i true=false):(l.setIfInBounds i true).toList.count false<l.toList.count false:=by
 have hi:i<l.size:=by
  rcases Ju i l.size with h'|h'
  ·exact h'
  ·simp[Array.getElem?_eq_none h'] at h
 have hv:l.toList[i]'(by simpa using hi)=false:=by simpa [hi] using h
 have hp:0<l.toList.count false:=List.count_pos_iff.2 (hv ▸ List.getElem_mem _);rw[Array.toList_setIfInBounds,List.count_set (by simpa using hi),hv]
 show _-1+0<_
 omega
def ahead(ops:Array Oper):Bool:=(List.range ops.size).all fun i=>((ops[i]?).map (·.after.all fun e=>decide (e.on<i))).getD true
end
def lay(listed:Array Bool)(vals:Nat->Value):List (Nat×Nat)->Array Value->Array Value
 | [],t=>t
 |(i,d)::l,t=>lay listed vals l (if listed.getD i false=true then t.setIfInBounds d (vals i) else t)
theorem rh(listed:Array Bool)(vals:Nat->Value)(d:Nat)(v:Value):∀(l:List (Nat×Nat)) (t:Array Value),d∉l.map Prod.snd->lay listed vals l (t.setIfInBounds d v)=(lay listed vals l t).setIfInBounds d v
 | [],t,_=>rfl
 |(i,e)::l,t,h=>by
  simp only[List.map_cons,List.mem_cons,not_or] at h
  rw[lay,lay];split
  ·rw[<-rh listed vals d v l _ h.2,Array.setIfInBounds_comm _ _ h.1]
  ·exact rh listed vals d v l t h.2
theorem jA(listed:Array Bool)(vals:Nat->Value)(s:Nat):∀(l:List (Nat×Nat)) (t:Array Value),s∉l.map Prod.snd->(lay listed vals l t).getD s undef=t.getD s undef
 | [],t,_=>rfl
 |(i,e)::l,t,h=>by
  simp only[List.map_cons,List.mem_cons,not_or] at h
  rw[lay,jA listed vals s l _ h.2];split
  ·simp[Array.getElem?_setIfInBounds,Ne.symm h.1]
  ·rfl
theorem ri(listed:Array Bool)(vals:Nat->Value):∀(l:List (Nat×Nat)) (t:Array Value),(lay listed vals l t).size=t.size
 | [],t=>rfl
 |(i,e)::l,t=>by
  rw[lay,ri listed vals l];split<;>simp
theorem wO(listed:Array Bool)(vals:Nat->Value)(i d:Nat)(hi:listed.getD i false=true):∀(l:List (Nat×Nat)) (t:Array Value),(l.map Prod.snd).Nodup->(i,d)∈l->d<t.size->(lay listed vals l t).getD d undef=vals i
 | [],t,_,h,_=>by cases h
 |(j,e)::l,t,hn,h,hd=>by
  simp only[List.map_cons,List.nodup_cons] at hn
  rw[lay];rcases List.mem_cons.1 h with h1|h1
  ·cases h1
   rw[if_pos hi,jA listed vals d l _ hn.1];simp[hd]
  ·refine wO listed vals i d hi l _ hn.2 h1 ?_
   split<;>simpa using hd
theorem wP(listed:Array Bool)(vals:Nat->Value)(j:Nat)(v:Value):∀(l:List (Nat×Nat)) (t:Array Value),j∉l.map Prod.fst->lay (listed.setIfInBounds j true) (fun i=>if i=j then v else vals i) l t=lay listed vals l t
 | [],t,_=>rfl
 |(i,e)::l,t,h=>by
  simp only[List.map_cons,List.mem_cons,not_or] at h
  have h1:(listed.setIfInBounds j true).getD i false=listed.getD i false:=by simp[Array.getElem?_setIfInBounds,h.1]
  rw[lay,lay,h1,if_neg (Ne.symm h.1),wP listed vals j v l _ h.2]
theorem tX(listed:Array Bool)(vals:Nat->Value)(j d:Nat)(v:Value)(hj:listed.getD j true=false):∀(l:List (Nat×Nat)) (t:Array Value),(l.map Prod.fst).Nodup->(l.map Prod.snd).Nodup->(j,d)∈l->lay (listed.setIfInBounds j true) (fun i=>if i=j then v else vals i) l t=(lay listed vals l t).setIfInBounds d v
 | [],t,_,_,h=>by cases h
 |(i,e)::l,t,hf,hs,h=>by
  simp only[List.map_cons,List.nodup_cons] at hf hs
  have hlt:j<listed.size:=by
   rcases Ju j listed.size with h'|h'
   ·exact h'
   ·simp[Array.getElem?_eq_none h'] at hj
  have hj':listed.getD j false=false:=by simpa [hlt] using hj
  have hnew:(listed.setIfInBounds j true).getD j false=true:=by simp[hlt]
  rw[lay,lay];rcases List.mem_cons.1 h with h1|h1
  ·cases h1
   rw[if_pos hnew,if_pos rfl,hj',if_neg (by decide),wP listed vals j v l _ hf.1,rh listed vals d v l t hs.1]
  ·have hij:i≠j:=fun e'=>hf.1 (by rw[e'];exact List.mem_map.2 ⟨(j,d),h1,rfl⟩)
   have h2:(listed.setIfInBounds j true).getD i false=listed.getD i false:=by simp[Array.getElem?_setIfInBounds,Ne.symm hij]
   rw[h2,if_neg hij];exact tX listed vals j d v hj l _ hf.2 hs.2 h1
section
variable {P:Program} {ops:Array Oper} {Q:Exit->Act->World->Prop}
end
inductive Ans where
 |val (v:Value)
 |row (n:Nat) (xs:List Int)
section
variable {P:Program} {Q:Exit->Act->World->Prop} {W:World} {t0:Array Value} {dl:List (Nat×Nat)} {ans:List Ans} {i:Nat} {o:Oper}
end
structure An where
 is:Value->World->Prop
 later:∀{v:Value} {w w':World},is v w->Below w.heap.size w w'->is v w'
instance:Inhabited An:=⟨⟨fun _ _=>True,fun _ _=>trivial⟩⟩
theorem kp(listed:Array Bool)(vals:Nat->Value)(k s:Nat)(hk:listed.getD k false=false):∀(l:List (Nat×Nat)) (t:Array Value),(l.map Prod.snd).Nodup->(k,s)∈l->(lay listed vals l t).getD s undef=t.getD s undef
 | [],t,_,h=>by cases h
 |(j,e)::l,t,hn,h=>by
  simp only[List.map_cons,List.nodup_cons] at hn
  rw[lay];rcases List.mem_cons.1 h with h1|h1
  ·cases h1
   rw[hk,if_neg (by decide),jA listed vals s l _ hn.1]
  ·have hne:e≠s:=fun e'=>hn.1 (by rw[e'];exact List.mem_map.2 ⟨(k,s),h1,rfl⟩)
   rw[kp listed vals k s hk l _ hn.2 h1];split
   ·simp[Array.getElem?_setIfInBounds,hne]
   ·rfl
def waits(ops:Array Oper)(k i:Nat):Bool:=match ops[k]? with
 |some o=>o.after.toList.any fun e=>e.on==i&&Region.binds .any e
 |none=>false
variable {k i:Nat}
theorem eV{ops:Array Oper}(h:waits ops k i=true):∃o,ops[k]?=some o/\∃e∈o.after,e.on=i/\Region.binds .any e=true:=by
 unfold waits at h
 cases ho:ops[k]? with
 |none=>simp[ho] at h
 |some o=>
  simp only[ho] at h
  obtain⟨e,he,h2⟩:=List.any_eq_true.1 h;simp only[Bool.and_eq_true,beq_iff_eq] at h2
  exact⟨o,rfl,e,by simpa using he,h2.1,h2.2⟩
def l_(ops:Array Oper)(N:Nat):Bool:=decide (ops.size=N)||(decide (ops.size=N+1)&&(match ops[N]? with|some o=>o.guard.isNone|none=>false)&&(List.range N).all fun j=>waits ops N j)
def o7(S:Nat->Oper->Prop)(N:Nat):Nat->List Oper->Prop
 |_,[]=>True
 |i,o::l=>(i<N->S i o)/\o7 S N (i+1) l
theorem mF{S:Nat->Oper->Prop}:∀(l:List Oper) (k:Nat),o7 S N k l->∀i o,l[i]?=some o->k+i<N->S (k+i) o
 | [],_,_,i,o,h,_=>by simp at h
 |x::l,k,h,0,o,ho,hN=>by
  simp only[List.getElem?_cons_zero,Option.some.injEq] at ho
  subst ho;exact h.1 hN
 |x::l,k,h,i+1,o,ho,hN=>by
  have:=mF l (k+1) h.2 i o (by simpa using ho) (by omega)
  rwa [show k+1+i=k+(i+1) by omega] at this
def o0(P:Program)(Q:Exit->Act->World->Prop)(ops:Array Oper)(N:Nat)(a:Act)(w:World):Prop:=match ops[N]? with
 |none=>Q .normal a w
 |some o=>o.wp P a w (fun a' w'=>Q .normal a' w') Q
structure Ends(P:Program)(Q:Exit->Act->World->Prop)(ops:Array Oper)(N:Nat)(a:Act)(w:World):Prop where
 out:o0 P Q ops N a w
def nR(ops:Array Oper):Bool:=(List.range ops.size).all fun i=>((ops[i]?).map (·.after.all fun e=>!Region.binds .any e||decide (e.on<i))).getD true
theorem p_{ops:Array Oper}(ha:nR ops=true){listed:Array Bool}(hr:Region.ready .any ops listed=[]):∀j,j<ops.size->listed.getD j true=true:=by
 intro j;induction j using Nat.strongRecOn with
 |_ j ih=>
  intro hj
  cases hc:listed.getD j true with
  |true=>rfl
  |false=>
   exfalso;have ho:ops[j]?=some ops[j]:=Array.getElem?_eq_getElem hj;have hsz:j<listed.size:=by
    rcases Ju j listed.size with h'|h'
    ·exact h'
    ·simp[Array.getElem?_eq_none h'] at hc
   have:j∈Region.ready .any ops listed:=by
    rw[mem_ready];refine⟨hc,ops[j],ho,fun e he hbn=>?_⟩
    have h1:=List.all_eq_true.1 ha j (List.mem_range.2 hj);rw[ho] at h1
    simp only[Option.map_some,Option.getD_some,Array.all_eq_true_iff_forall_mem,Bool.or_eq_true,Bool.not_eq_true',decide_eq_true_eq] at h1
    have h2:e.on<j:=by
     rcases h1 e he with h|h
     ·rw[hbn] at h;cases h
     ·exact h
    have h3:=ih e.on h2 (by omega)
    have h4:e.on<listed.size:=by omega
    simpa [h4] using h3
   rw[hr] at this
   cases this
theorem A9{P:Program}{ops:Array Oper}{Q:Exit->Act->World->Prop}(I:Array Bool->Act->World->Prop)(ha:nR ops=true)
  (hend:∀listed a w,I listed a w->(∀j,j<ops.size->listed.getD j true=true)->Q .normal a w)
  (hstep:∀listed a w,I listed a w->∀i o,ops[i]?=some o->listed.getD i true=false->(∀e∈o.after,Region.binds .any e=true->listed.getD e.on false=true)->wpOp P ops Q i (fun a' w'=>I (listed.setIfInBounds i true) a' w') a w):
  ∀(fuel:Nat) (listed:Array Bool) (a:Act) (w:World),listed.toList.count false<=fuel->I listed a w->wpAny P .any ops Q fuel listed a w:=by
 intro fuel;induction fuel with
 |zero=>
  intro listed a w hc hI;have hr:Region.ready .any ops listed=[]:=by
   rw[List.eq_nil_iff_forall_not_mem];intro j hj;have h1:=rW (mem_ready.1 hj).1;omega
  exact⟨hr,hend _ _ _ hI (p_ ha hr)⟩
 |succ fuel ih=>
  intro listed a w hc hI;refine⟨fun hr=>hend _ _ _ hI (p_ ha hr),fun i hi=>?_⟩
  obtain⟨h0,o,ho,hd⟩:=mem_ready.1 hi;exact wpOp_mono (fun a' w' h=>ih _ _ _ (by have:=rW h0;omega) h) (hstep _ _ _ hI i o ho h0 hd)
variable {id:Nat} {w:World}
theorem qy{P:Program}{ops:Array Oper}{Q:Exit->Act->World->Prop}{a:Act}(hm:P.follows .mixedOrders=true)(I:Array Bool->Act->World->Prop)(ha:nR ops=true)
  (hend:∀listed a w,I listed a w->(∀j,j<ops.size->listed.getD j true=true)->Q .normal a w)
  (hstep:∀listed a w,I listed a w->∀i o,ops[i]?=some o->listed.getD i true=false->(∀e∈o.after,Region.binds .any e=true->listed.getD e.on false=true)->wpOp P ops Q i (fun a' w'=>I (listed.setIfInBounds i true) a' w') a w)
  (h:I (Array.replicate ops.size false) a {w with drawn:=w.drawn+1}):(Code.region id ops true).wp P Q a w:=
 wp_region_any hm (A9 I ha hend hstep _ _ _ _ (by simp) h)
theorem od{P:Program}{Q:Exit->Act->World->Prop}{ops:Array Oper}{a:Act}{o:Oper}(h:ops[N]?=some o)(k:o.wp P a w (fun a' w'=>Q .normal a' w') Q):Ends P Q ops N a w:=by
 refine⟨?_⟩;rw[o0,h];exact k
section
variable {P:Program} {Q:Exit->Act->World->Prop} {W:World} {ops:Array Oper} {t0:Array Value} {dl:List (Nat×Nat)} {ans:List An} {i:Nat} {o:Oper}
end
end Go.Proofs.YtdjjlghlcffflaaGreatDoor
