/- Own. -/
import Derived.Test.YtdjjlghlcffflaaGreatDoorWj
set_option linter.unusedVariables false
set_option linter.unusedSimpArgs false
set_option maxHeartbeats 8000000
set_option maxRecDepth 100000
namespace Go.Proofs.YtdjjlghlcffflaaGreatDoor
open Go.RowKit
variable {w:World} {B T K E D:Nat} {zss:List (List Int)} {h:Hdr}
theorem AP(H:HR D (EZ K E) w B T zss h)(hT:T<=w.heap.size)(hD:D<=1000)(hE:E<=1000)(hK:K<=400):
  Calls Tryz.prog 8 #[.slice h.p h.n h.c] w (OrP D (zss.map tr) (2*K) E w):=by
 obtain⟨I0,hi,hzz⟩:=Option.map_eq_some_iff.1 oq;simp only[Prod.mk.injEq] at hzz
 obtain⟨hz0,hz1,hz2⟩:=hzz;have HI:Hid (Tryz.prog.info? 31=some I0/\I0.zero=some (.slice none 0 0)/\I0.size=1/\I0.bytes=24):=⟨hi,hz0,hz1,hz2⟩;clear hi hz0 hz1 hz2;obtain⟨hs,k⟩:=H;have HX:Hid (ew D (EZ K E) w B T zss h hs/\T<=w.heap.size):=⟨k,hT⟩;have hn:h.n<=D:=k.few;have HL:Hid (zss.length=h.n):=k.tl;obtain⟨p,n,nc⟩:=h;simp only at hn HL ⊢
 clear k hT;go_enter Tryz.func8,Tryz.ntmps8;go_wp2_with fail;go_loopw [3,4] (fun qv iv wr=>∃(k:Nat) (ls:List Hdr),k<=n/\iv=.int .i64 k/\Hid (ls.length=k/\LH w.heap.size 31 (EY (2*K) E) wr qv ls ((zss.take k).map tr)/\Below w.heap.size w wr)) (fun _ iv _=>n-(intOf iv).toNat)
 case atStart=>exact⟨0,[],Jz _,by go_num,rfl,by rw[List.take_zero];exact LH.nil _ _ _ _,Jt _ _⟩
 case round=>
  obtain⟨k,ls,hk,rfl,G⟩:=hrel;rcases Ju k n with hlt|hge
  ·have g4:=G.out.2.2
   obtain⟨b,o,hp,hc⟩:=HX.out.1.hl (by rw[HX.out.1.el];show 0<n;omega)
   simp only at hp;subst hp
   have c0:=hc k (by rw[HX.out.1.el];exact hlt)
   have c1:wr.cell? ⟨b,o+k,none⟩=some (gh hs k).val:=by rw[g4.cell (block_lt_of_cell c0)];exact c0
   have hE2:=(df K E).below (HX.out.1.ev k hlt) HX.out.2 g4;generalize gh hs k=hd at c1 hE2
   obtain⟨p2,n2,nc2⟩:=hd;simp only[Hdr.val] at c1
   obtain⟨es2,hP2,hd3,-,-⟩:=hE2;simp only at hP2 hd3
   have i1:(k:Int)<(n:Int):=by omega
   have hcall:=sQ hP2 (by omega) hK
   have hlen:Hid (ad (gt zss k)<=E):=by have h1:=aj (gt zss k);have h2:=hP2.zl;show _<=_;omega
   clear hc c0 hP2 g4;go_wp2_with fail;go_fit hcall;rintro e w1 ⟨q,m,fs,rfl,hR1,hF1,ht1,hF2,hb1⟩;have HE:Hid (EY (2*K) E w1 wr.heap.size w1.heap.size (tr (gt zss k)) ⟨q,m,m⟩):=mM hR1 hF1 ht1 hF2 (by rw[<-ht1,aM];exact hlen.out)
   clear c1 hR1 hF1 hF2 hcall;obtain⟨hi,hz0,hz1,hz2⟩:=HI.out;have hown0:=cD G.out.2.1.own hb1;rw[G.out.1] at hown0
   have HO:Hid (w1.ownsRow w.heap.size 31 1 u3 k (ls.map Hdr.val)):=hown0;have hsz:w.heap.size<=w1.heap.size:=JA G.out.2.2.size hb1.size;clear hown0;go_wp2_with (refine wpList_append_lies _ rfl _ _ 28 rfl w.heap.size 31 I0 (.slice none 0 0) 1 24 Tryz.underlying28 hi hz0 hz1 hz2 rfl (by decide) u3 k (ls.map Hdr.val) rfl (HO.out.alloc _) ⟨w1.heap.size,0,none⟩ 1 1 [.slice q m m] rfl rfl ?_ (fun x hx=>by simp at hx;subst hx;rfl) (by decide) (by unfold maxLen;omega) (by omega) (by simp;omega) _ rfl ?_;exact World.news_of_block (heap_alloc_new w1 _);intro g cap w3 hown3 hgrow3 hat3 hlt3;have hB3:Below w.heap.size w w3:=((ae G.out.2.2 hb1).alloc hsz _).grown hgrow3 (by simp;omega) (fun q hq=>(HO.out.lt q hq).1);have HA:Hid (LH w.heap.size 31 (EY (2*K) E) w3 (.slice (some ⟨g,0,none⟩) (k+1) cap) (ls++[⟨q,m,m⟩]) ((zss.take k).map tr++[tr (gt zss k)])):=LH.app (bO (2*K) E) G.out.1 G.out.2.1 hb1 HE.out (Jr _) (Jr _) G.out.2.2.size hown3 hgrow3 hat3;clear hown3 hgrow3 hat3)
   refine⟨⟨k+1,ls++[⟨q,m,m⟩],by omega,by go_num,by have:=G.out.1;simp;omega,by rw[jJ tr zss k (by have:=HL.out;omega)];exact HA.out,hB3⟩,by simp[intOf];omega⟩
  ·obtain rfl:k=n:=by omega
   obtain⟨hel,hLR,hB⟩:=G.out;rw[Jv (by have:=HL.out;omega)] at hLR
   obtain⟨q,cap,hv,hRow⟩:=hLR.row (bO (2*K) E) (D:=D) (by omega)
   subst hv;have ht2:=sM ⟨_,hRow⟩ (Jr _) (by omega) (by omega)
   have HRW:Hid (ew D (EY (2*K) E) wr w.heap.size wr.heap.size (zss.map tr) ⟨q,ls.length,cap⟩ ls/\Below w.heap.size w wr):=⟨hRow,hB⟩;simp only at ht2
   rw[hel] at ht2 ⊢
   clear hRow hLR hB G;go_wp2_with fail;go_fit ht2;rintro e w1 ⟨rfl,hb1⟩;have HR':Hid (OrP D (zss.map tr) (2*K) E w (.returned (.slice q (aE (zss.map tr)) (aE (zss.map tr)))) w1):=xU HRW.out.1 HRW.out.2 hb1;clear hb1 ht2;generalize aE (zss.map tr)=m at *
   go_wp2;go_ret;exact HR'.out
variable {p:Option Addr} {n nc:Nat} {es:List Ent} {zs:List Int}
theorem oG(h:PR w (2*K) p n nc es zs)(i:Nat):((gx zs i).natAbs:Int)<pw K:=by
 have e:pd (2*K)=pw K:=by unfold pd pw;rw[Int.pow_mul];rfl
 rcases Ju i n with hi|hi
 ·rw[<-e]
  exact(h.ev i hi).1.bd
 ·have h0:gx zs i=0:=by simp[gx,h.zl,hi]
  rw[h0];exact bu K
theorem Gr(zs ys:List Int):(ax zs ys).length<=zs.length+ys.length:=by
 unfold ax;split
 ·simp
 ·rw[cx];omega
variable {L E':Nat} {yss:List (List Int)}
theorem qx{A:Nat}{k:Hdr}(H:PR w A p n nc es zs)(hz:ad zs=zs.length)(hA:A<=200)(hX:∀i,((gx zs i).natAbs:Int)<pw K)(G:HR D (EY (2*L) E) w B T yss k)(hT:T<=w.heap.size)(hD:D<=1000)(hE:E<=900)(hn:n<=100)(hKL:K+L<=100)(hE':n+E<=E')(hE2:E'<=1000):
  Calls Tryz.prog 5 #[.slice p n nc,.slice k.p k.n k.c] w (OrP D (yss.map (ax zs)) (2*(K+L+1)) E' w):=by
 obtain⟨I0,hi,hzz⟩:=Option.map_eq_some_iff.1 oq;simp only[Prod.mk.injEq] at hzz
 obtain⟨hz0,hz1,hz2⟩:=hzz;have HI:Hid (Tryz.prog.info? 31=some I0/\I0.zero=some (.slice none 0 0)/\I0.size=1/\I0.bytes=24):=⟨hi,hz0,hz1,hz2⟩;clear hi hz0 hz1 hz2;obtain⟨hs,g⟩:=G;have HX:Hid (ew D (EY (2*L) E) w B T yss k hs/\T<=w.heap.size):=⟨g,hT⟩;have HP:Hid (PR w A p n nc es zs/\ad zs=zs.length/\∀i,((gx zs i).natAbs:Int)<pw K):=⟨H,hz,hX⟩;have hm:k.n<=D:=g.few;have HL:Hid (yss.length=k.n):=g.tl;obtain⟨q,m,mc⟩:=k;simp only at hm HL ⊢
 clear g hT H hX hz;go_enter Tryz.func5,Tryz.ntmps5;go_wp2_with fail;go_loopw [5,6] (fun qv iv wr=>∃(k:Nat) (ls:List Hdr),k<=m/\iv=.int .i64 k/\Hid (ls.length=k/\LH w.heap.size 31 (EY (2*(K+L+1)) E') wr qv ls ((yss.take k).map (ax zs))/\Below w.heap.size w wr)) (fun _ iv _=>m-(intOf iv).toNat)
 case atStart=>exact⟨0,[],Jz _,by go_num,rfl,by rw[List.take_zero];exact LH.nil _ _ _ _,Jt _ _⟩
 case round=>
  obtain⟨k,ls,hk,rfl,G⟩:=hrel;rcases Ju k m with hlt|hge
  ·have g4:=G.out.2.2
   obtain⟨b,o,hp,hc⟩:=HX.out.1.hl (by rw[HX.out.1.el];show 0<m;omega)
   simp only at hp;subst hp
   have c0:=hc k (by rw[HX.out.1.el];exact hlt)
   have c1:wr.cell? ⟨b,o+k,none⟩=some (gh hs k).val:=by rw[g4.cell (block_lt_of_cell c0)];exact c0
   have hE2:=(bO (2*L) E).below (HX.out.1.ev k hlt) HX.out.2 g4;generalize gh hs k=hd at c1 hE2
   obtain⟨p2,n2,nc2⟩:=hd;simp only[Hdr.val] at c1
   obtain⟨es2,hP2,a2,b2,hd3,-⟩:=hE2;simp only at hP2 hd3 a2 b2
   have i1:(k:Int)<(m:Int):=by omega
   have hcall:=vf (HP.out.1.below g4) hP2 HP.out.2.1 (by rw[b2,hP2.zl]) (by omega) (by omega) hA (by omega) HP.out.2.2 (oG hP2) hKL
   have hlen:Hid ((ax zs (gt yss k)).length<=E'):=by have h1:=Gr zs (gt yss k);have h2:=hP2.zl;have h3:=HP.out.1.zl;show _<=_;omega
   clear hc c0 hP2 g4 a2 b2;go_wp2_with fail;go_fit hcall;rintro e w1 ⟨q1,m',fs,rfl,hR1,hF1,ht1,hF2,hb1⟩;have HE:Hid (EY (2*(K+L+1)) E' w1 wr.heap.size w1.heap.size (ax zs (gt yss k)) ⟨q1,m',m'⟩):=mM hR1 hF1 ht1 hF2 (by rw[<-hR1.zl];exact hlen.out)
   clear c1 hR1 hF1 hF2 hcall;obtain⟨hi,hz0,hz1,hz2⟩:=HI.out;have hown0:=cD G.out.2.1.own hb1;rw[G.out.1] at hown0
   have HO:Hid (w1.ownsRow w.heap.size 31 1 u5 k (ls.map Hdr.val)):=hown0;have hsz:w.heap.size<=w1.heap.size:=JA G.out.2.2.size hb1.size;clear hown0;go_wp2_with (refine wpList_append_lies _ rfl _ _ 28 rfl w.heap.size 31 I0 (.slice none 0 0) 1 24 Tryz.underlying28 hi hz0 hz1 hz2 rfl (by decide) u5 k (ls.map Hdr.val) rfl (HO.out.alloc _) ⟨w1.heap.size,0,none⟩ 1 1 [.slice q1 m' m'] rfl rfl ?_ (fun x hx=>by simp at hx;subst hx;rfl) (by decide) (by unfold maxLen;omega) (by omega) (by simp;omega) _ rfl ?_;exact World.news_of_block (heap_alloc_new w1 _);intro g cap w3 hown3 hgrow3 hat3 hlt3;have hB3:Below w.heap.size w w3:=((ae G.out.2.2 hb1).alloc hsz _).grown hgrow3 (by simp;omega) (fun q hq=>(HO.out.lt q hq).1);have HA:Hid (LH w.heap.size 31 (EY (2*(K+L+1)) E') w3 (.slice (some ⟨g,0,none⟩) (k+1) cap) (ls++[⟨q1,m',m'⟩]) ((yss.take k).map (ax zs)++[ax zs (gt yss k)])):=LH.app (bO (2*(K+L+1)) E') G.out.1 G.out.2.1 hb1 HE.out (Jr _) (Jr _) G.out.2.2.size hown3 hgrow3 hat3;clear hown3 hgrow3 hat3)
   refine⟨⟨k+1,ls++[⟨q1,m',m'⟩],by omega,by go_num,by have:=G.out.1;simp;omega,by rw[jJ (ax zs) yss k (by have:=HL.out;omega)];exact HA.out,hB3⟩,by simp[intOf];omega⟩
  ·obtain rfl:k=m:=by omega
   obtain⟨hel,hLR,hB⟩:=G.out;rw[Jv (by have:=HL.out;omega)] at hLR
   obtain⟨q',cap,hv,hRow⟩:=hLR.row (bO (2*(K+L+1)) E') (D:=D) (by omega)
   subst hv;have ht2:=sM ⟨_,hRow⟩ (Jr _) (by omega) (by omega)
   have HRW:Hid (ew D (EY (2*(K+L+1)) E') wr w.heap.size wr.heap.size (yss.map (ax zs)) ⟨q',ls.length,cap⟩ ls/\Below w.heap.size w wr):=⟨hRow,hB⟩;simp only at ht2
   rw[hel] at ht2 ⊢
   clear hRow hLR hB G;go_wp2_with fail;go_fit ht2;rintro e w1 ⟨rfl,hb1⟩;have HR':Hid (OrP D (yss.map (ax zs)) (2*(K+L+1)) E' w (.returned (.slice q' (aE (yss.map (ax zs))) (aE (yss.map (ax zs))))) w1):=xU HRW.out.1 HRW.out.2 hb1;clear hb1 ht2;generalize aE (yss.map (ax zs))=m' at *
   go_wp2;go_ret;exact HR'.out
theorem Iq(H:HR D (EZ K E) w B T zss h)(i:Nat):(gt zss i).length<=E:=by
 obtain⟨rs,hr⟩:=H;rcases Ju i zss.length with hk|hk
 ·obtain⟨fs,hP,hd,-⟩:=hr.ev i (by rw[<-hr.tl];exact hk)
  rw[hP.zl];exact hd
 ·rw[gy _ _ hk]
  exact Jz _
variable {w':World} {v:Value}
theorem eX{a:Addr}(hb:Below w.heap.size w w')(h:w.cell? a=some v):w'.cell? a=some v:=by
 rw[hb.cell (block_lt_of_cell h)];exact h
theorem rE(zs:List Int)(K:Nat)(h:∀j,j<zs.length->zb (gx zs j)<=K):∀j,j<=zs.length->pb (zs.take j)<=K
 |0,_=>by simp[pb]
 |j+1,hj=>by
  rw[uc zs j (by omega)]
  have:=rE zs K h j (by omega)
  have:=h j (by omega)
  omega
theorem FN(zs:List Int)(j:Nat)(h:j<zs.length):zb (gx zs j)<=pb zs:=by
 have h1:∀k,j<k->k<=zs.length->zb (gx zs j)<=pb (zs.take k):=by
  intro k;induction k with
  |zero=>intro h;omega
  |succ k ih=>
   intro h1 h2;rw[uc zs k (by omega)]
   rcases Ju j k with h3|h3
   ·have:=ih h3 (by omega)
    omega
   ·have:k=j:=by omega
    subst this;omega
 have:=h1 zs.length h (Jr _);rwa [List.take_length] at this
theorem Cj(H:HR D (EZ K E) w B T zss h)(hT:T<=w.heap.size)(hD:D<=1000000)(hE:E<=1000000)(hK:K<=1000):
  Calls Tryz.prog 37 #[.slice h.p h.n h.c] w (PnP (tr (gt zss (aE zss-1))) K w):=by
 have ht:=oE H hT hD hE;obtain⟨hs,k⟩:=H;have hl:aE zss<=h.n:=by
  have h1:=iW zss;have h2:=k.tl;omega
 have hn:h.n<=D:=k.few;have HX:Hid (ew D (EZ K E) w B T zss h hs/\T<=w.heap.size):=⟨k,hT⟩;obtain⟨p,n,nc⟩:=h;simp only at ht hl hn ⊢
 clear hT k;have HZ:Hid (aE zss=0->tr (gt zss 0)=[]):=fun h0=>by
  have h1:=oD zss 0 (by omega)
  rw[tr,h1];rfl
 generalize hm:aE zss=m at *
 clear hm;rcases Jw m with h0|h0
 ·subst h0
  go_enter Tryz.func37,Tryz.ntmps37;go_wp2_with fail;go_fit ht;rintro e w1 ⟨rfl,hb⟩;clear ht;go_wp2;go_ret;refine⟨none,0,[],rfl,?_,hb⟩;show PN _ _ _ _ _ _ (tr (gt zss 0))
  rw[HZ.out (by trivial)]
  exact Cu _ _ _
 ·obtain⟨i,rfl⟩:∃i,m=i+1:=⟨m-1,by omega⟩
  obtain⟨b,o,hp,hc⟩:=HX.out.1.hl (by rw[HX.out.1.el];show 0<n;omega)
  simp only at hp;subst hp
  have c0:=hc i (by rw[HX.out.1.el];show i<n;omega)
  have HE:Hid (∀w',Below w.heap.size w w'->EZ K E w' B T (gt zss i) (gh hs i)):=fun w' hb=>(df K E).below (HX.out.1.ev i (by show i<n;omega)) HX.out.2 hb
  have HC:Hid (∀w',Below w.heap.size w w'->w'.cell? ⟨b,o+i,none⟩=some (gh hs i).val):=fun w' hb=>eX hb c0
  generalize gh hs i=hd at HE HC
  obtain⟨p2,n2,nc2⟩:=hd;simp only[Hdr.val] at HC
  have v1:wrap64 ((i:Int)+1-1)=(i:Int):=by unfold wrap64;omega
  have v2:(i:Int)<(i:Int)+1:=by omega
  have d1:(((i:Int)+1)==0)=false:=by rw[beq_eq_false_iff_ne];omega
  have d2:¬((i:Int)+1)=0:=by omega
  clear hc c0;go_enter Tryz.func37,Tryz.ntmps37;go_wp2_with fail;go_fit ht;rintro e w1 ⟨rfl,hb⟩;have c1:=HC.out w1 hb;obtain⟨es2,hP2,hd3,-,-⟩:=HE.out w1 hb;simp only at hP2 hd3
  have hcall:=C9 K p2 n2 nc2 es2 (gt zss i) w1 hP2 (by omega) hK
  clear ht hP2;go_wp2_with fail;go_fit hcall;rintro e w2 ⟨p3,n3,es3,rfl,h3,hb3⟩;have HR':Hid (PnP (tr (gt zss (i+1-1))) K w (.returned (.slice p3 n3 n3)) w2):=⟨p3,n3,es3,rfl,h3.mono hb.size,ae hb hb3⟩;clear hcall h3 hb3 c1;go_wp2;go_ret;exact HR'.out
theorem FO(s t:Bool)(p q:Option Addr)(n nc m mc:Nat)(xs ys:List Int)(w:World)(hA:AI w p n nc xs)(hB:AI w q m mc ys):
  Calls Tryz.prog 76 #[.agg #[.bool s,.slice p n nc],.agg #[.bool t,.slice q m mc]] w fun e w'=>e=.returned (.int .i64 (bQ (aq s xs) (aq t ys)))/\Below w.heap.size w w':=by
 have hd:Hid (bf (aq s xs)=bf (aq t ys)\/bf (aq s xs)≠bf (aq t ys)):=Classical.em _;have q1:-1<=bf (aq s xs)/\bf (aq s xs)<=1:=by rcases iw (aq s xs) with h|h|h<;>omega
 have q2:-1<=bQ (val xs) (val ys)/\bQ (val xs) (val ys)<=1:=by unfold bQ;split<;>(try split)<;>decide
 obtain⟨q1,q1'⟩:=q1;obtain⟨q2,q2'⟩:=q2;go_enter Tryz.func76,Tryz.ntmps76;go_wp2_with fail;have hX0:=vW w (.bool s) (.slice p n nc) (.bool t) (.slice q m mc) 50 50;generalize ((w.alloc (Obj.cells #[Value.bool s,Value.slice p n nc] 50)).alloc (Obj.cells #[Value.bool t,Value.slice q m mc] 50))=W0 at *
 refine(qI s p n nc xs _ (hA.below hX0.below)).mono ?_;rintro e W1 ⟨rfl,hb0⟩;have hX1:=hX0.later hb0;clear hX0 hb0 W0;have k0:=hX1.ca0;have k1:=hX1.ca1;have k2:=hX1.cb0;have k3:=hX1.cb1;go_wp2_with fail;refine(qI t q m mc ys _ (hB.below hX1.below)).mono ?_;rintro e W ⟨rfl,hb0⟩;have hX:=hX1.later hb0;clear hX1 hb0 k0 k1 k2 k3 W1;have k0:=hX.ca0;have k1:=hX.ca1;have k2:=hX.cb0;have k3:=hX.cb1;rcases hd.out with h|h
 ·have hne:(bf (aq s xs) != bf (aq t ys))=false:=by rw[h];simp
  have H:Hid (bf (aq s xs)=bf (aq t ys)):=h;clear h hd;go_wp2_with fail;have hA':=hA.below hX.below;have hB':=hB.below hX.below;refine(ey p q n nc m mc xs ys _ hA.len hB.len hA.cap hA.bnd hB.cap hB.bnd hA'.rd hA.u hB'.rd hB.u).mono ?_;rintro e w1 ⟨rfl,hb1⟩;have hw:wrap64 (bf (aq s xs)*bQ (val xs) (val ys))=bQ (aq s xs) (aq t ys):=by
   rw[uI hA.u hB.u H.out];unfold bQ;split<;>(try split)<;>simp[wrap64,IntKind.wrap,IntKind.bits,IntKind.signed]
  go_wp2;go_ret;refine⟨?_,hX.below.trans (hb1.mono hX.below.size)⟩;first
   |exact gU hw
   |exact gU (uI hA.u hB.u H.out)
   |rfl
 ·have hne:(bf (aq s xs) != bf (aq t ys))=true:=by rw[bne_iff_ne];exact h
  clear hd;go_wp2_with fail;refine(lO _ _ _).mono ?_;rintro e w1 ⟨rfl,rfl⟩;go_wp2;go_ret;exact⟨gU (B3 h),hX.below⟩
variable {x y:Int} {e f:Ent}
theorem Hj(h:EV w K x e)(k:EV w L y f):Calls Tryz.prog 76 #[.agg #[.bool e.s,.slice e.p e.n e.c],.agg #[.bool f.s,.slice f.p f.n f.c]] w fun r w'=>r=.returned (.int .i64 (bQ x y))/\Below w.heap.size w w':=by
 obtain⟨xs,h1,rfl,h3⟩:=h;obtain⟨ys,k1,rfl,k3⟩:=k;exact FO e.s f.s e.p f.p e.n e.c f.n f.c xs ys w h1 k1
theorem DX(x y:Int):(bQ x y==0)=decide (x=y):=by
 unfold bQ;rcases Int.lt_trichotomy x y with h|h|h
 ·rw[if_pos h];simp;omega
 ·subst h;simp
 ·rw[if_neg (by omega),if_pos h];simp;omega
theorem Au(h:EV w K x e)(k:EV w L y f):Calls Tryz.prog 75 #[.agg #[.bool e.s,.slice e.p e.n e.c],.agg #[.bool f.s,.slice f.p f.n f.c]] w fun r w'=>r=.returned (.bool (decide (x=y)))/\Below w.heap.size w w':=by
 have hd:Hid ((bQ x y==0)=decide (x=y)):=DX x y;go_enter Tryz.func75,Tryz.ntmps75;go_wp2_with fail;have hW:Below w.heap.size w ((w.alloc (.cells #[.bool e.s,.slice e.p e.n e.c] 50)).alloc (.cells #[.bool f.s,.slice f.p f.n f.c] 50)):=((Jt _ _).alloc (Jr _) _).alloc (by simp) _
 generalize (w.alloc (.cells #[.bool e.s,.slice e.p e.n e.c] 50)).alloc (.cells #[.bool f.s,.slice f.p f.n f.c] 50)=W at *
 refine(Hj (h.below hW) (k.below hW)).mono ?_;rintro r w1 ⟨rfl,hb1⟩;go_wp2;go_ret;exact⟨by rw[hd.out];rfl,ae hW hb1⟩
theorem Dr(args:Array Value)(w':World):Sem.run Tryz.prog (callFunc 75 args) w'=.ok (.enter 75 args) w':=by
 have h1:¬Tryz.f75.name = "runtime.NumGoroutine" := of_decide_eq_false (by kernel_rfl)
 have h2:¬Tryz.f75.body=none:=fun h=>by cases h
 simp only[callFunc,Tryz.func75,go_sem];simp[h1,h2,go_sem]
variable {q:Option Addr} {m mc:Nat} {fs:List Ent} {ys:List Int}
theorem At(h:PA w K p n nc es zs)(k:PA w L q m mc fs ys)(hn:n<=1000000)(hm:m<=1000000):
  Calls Tryz.prog 77 #[.slice p n nc,.slice q m mc,.func (.func 75) #[] #[]] w fun r w'=>r=.returned (.bool (decide (zs=ys)))/\Below w.heap.size w w':=by
 have hel:=h.el;have hfl:=k.el;have hzl:=h.zl;have hyl:=k.zl;by_cases hnm:n=m
 ·subst hnm
  go_enter Tryz.func77,Tryz.ntmps77;go_wp2_with fail;have hE:=Dr;go_loopw [7,8,9,17] (fun iv av bv kv wr=>∃j:Nat,j<=n/\kv=.int .i64 j/\Hid ((∀i,i<j->gx zs i=gx ys i)/\Below w.heap.size w wr)) (fun _ _ _ kv _=>n-(intOf kv).toNat)
  case atStart=>exact⟨0,Jz _,by go_num,fun i hi=>by omega,Jt _ _⟩
  case round=>
   obtain⟨j,hj,rfl,H⟩:=hrel;rcases Ju j n with hlt|hge
   ·have hh:=h.below H.out.2
    have hk:=k.below H.out.2;have hv:=hh.ev j hlt;have hw:=hk.ev j hlt;obtain⟨b,o,hp,hc⟩:=hh.pl (by omega)
    obtain⟨c,r,hq,hd⟩:=hk.pl (by omega)
    subst hp hq;obtain⟨c0,c1⟩:=hc j (by omega)
    obtain⟨d0,d1⟩:=hd j (by omega)
    have sb:b<wr.heap.size:=block_lt_of_cell c0;have sc:c<wr.heap.size:=block_lt_of_cell d0;clear hc hd hh hk;go_wp2_with fail;have hal:=ag (o:=.cells #[.bool (ge fs j).s,.slice (ge fs j).p (ge fs j).n (ge fs j).c] 50) (ag (o:=.cells #[.bool (ge es j).s,.slice (ge es j).p (ge es j).n (ge es j).c] 50) (Jt wr.heap.size wr));refine(Au (hv.below hal) (hw.below hal)).mono ?_;rintro e w1 ⟨rfl,hb1⟩;have hB:=ae H.out.2 (ae hal hb1);have hcs:Hid (gx zs j=gx ys j\/¬gx zs j=gx ys j):=Classical.em _;clear c0 c1 d0 d1 hv hw hal hb1 sb sc;rcases hcs.out with hz|hz
    ·rw[decide_eq_true hz]
     have HZ:Hid (gx zs j=gx ys j):=hz;clear hz hcs;go_wp2;go_roundw
     case rel=>exact⟨j+1,by omega,by go_num,fun i hi=>by
      rcases Ju i j with h'|h'
      ·exact H.out.1 i h'
      ·obtain rfl:i=j:=by omega
       exact HZ.out,hB⟩
     case measure=>simp[intOf];omega
    ·rw[decide_eq_false hz]
     have HD:Hid (decide (zs=ys)=false):=decide_eq_false fun e=>hz (by rw[e])
     clear hz hcs;go_wp2;go_ret;exact⟨by rw[HD.out];rfl,hB⟩
   ·obtain rfl:j=n:=by omega
    have HD:Hid (decide (zs=ys)=true):=decide_eq_true (dm _ _ (by omega) fun i hi=>H.out.1 i (by omega))
    have hB:=H.out.2;clear hge;go_wp2;go_ret;exact⟨by rw[HD.out];rfl,hB⟩
 ·have hne:¬zs=ys:=fun e=>hnm (by rw[<-hzl,<-hyl,e])
  have HD:Hid (decide (zs=ys)=false):=decide_eq_false hne;have hI:((n:Int) != (m:Int))=true:=by rw[bne_iff_ne];omega
  clear hne hel hfl hzl hyl;go_enter Tryz.func77,Tryz.ntmps77;go_wp2;go_ret;exact⟨by rw[HD.out];rfl,Jt _ _⟩
theorem G8(h:PA w K p n nc es zs)(k:PA w L q m mc fs ys)(hn:n<=1000000)(hm:m<=1000000):
  Calls Tryz.prog 34 #[.slice p n nc,.slice q m mc] w fun r w'=>r=.returned (.bool (decide (tr zs=tr ys)))/\Below w.heap.size w w':=by
 have htl:=aj zs;have htl':=aj ys;have hzl:=h.zl;have hyl:=k.zl;go_enter Tryz.func34,Tryz.ntmps34;go_wp2_with fail;refine(cN K p n nc es zs _ h hn).mono ?_;rintro e w1 ⟨rfl,hb1⟩;go_wp2_with fail;refine(cN L q m mc fs ys _ (k.below hb1) hm).mono ?_;rintro e w2 ⟨rfl,hb2⟩;have h2:=((h.below hb1).below hb2).trim;have k2:=((k.below hb1).below hb2).trim;go_wp2_with fail;refine(At h2 k2 (by omega) (by omega)).mono ?_
 rintro e w3 ⟨rfl,hb3⟩;go_wp2;go_ret;exact⟨rfl,ae (ae hb1 hb2) hb3⟩
variable {s:Bool} {xs ds:List Int} {z:Int}
theorem GO{t:Bool}(h:NI B w s p n xs z)(hn:n<=1000)(hl:ds.length=m)(hm:m<=1000)(hX:Rd w q .i64 ds)(hU:U16 ds)(hnr:ad ds=m)(hs:m=0->t=false)(hv:aF t ds=z):
  Calls Tryz.prog 42 #[.agg #[.bool s,.slice p n n],.agg #[.bool t,.slice q m mc]] w fun e w'=>e=.returned (.bool true)/\Below w.heap.size w w':=by
 go_enter Tryz.func42,Tryz.ntmps42;go_wp2_with fail;have hX2:=vW w (.bool s) (.slice p n n) (.bool t) (.slice q m mc) 50 65;generalize ((w.alloc (Obj.cells #[Value.bool s,Value.slice p n n] 50)).alloc (Obj.cells #[Value.bool t,Value.slice q m mc] 65))=W at *
 have k0:=hX2.ca0;have k1:=hX2.ca1;have k2:=hX2.cb0;have k3:=hX2.cb1;go_region_held3 (fun w'=>w'.cell? ⟨w.heap.size,0,none⟩=some (.bool s)/\w'.cell? ⟨w.heap.size,1,none⟩=some (.slice p n n)/\w'.cell? ⟨w.heap.size+1,0,none⟩=some (.bool t)/\w'.cell? ⟨w.heap.size+1,1,none⟩=some (.slice q m mc)) (first|exact⟨by assumption,by assumption,by assumption,by assumption⟩|exact dU (by assumption) (by assumption))
  (first
   |(go_at_call 62;refine(GV t q m mc ds _ hl hm (hX.below hX2.below).drew hU).mono ?_;rintro e w1 ⟨p',m',cap,rfl,hA1,hm',hb1⟩)
   |(go_at_call 84;have h1:=h.below (ae hX2.below (aQ hb1));have h2:NN t (jn ds m') z:=Jb hU (by omega) (fun e=>hs (by omega)) hv (by have:=hm'.out;omega);refine(IM h1 hA1 h2 hn).mono ?_;rintro e w2 ⟨rfl,hb2⟩))
 go_wp2;go_ret;exact⟨rfl,ae (ae hX2.below (aQ hb1)) hb2⟩
variable {N:Nat}
theorem Ji(h:NV B w K z e)(hK:K<=1000)(k:RE w N z f)(hN:N<=1000):
  Calls Tryz.prog 42 #[.agg #[.bool e.s,.slice e.p e.n e.c],.agg #[.bool f.s,.slice f.p f.n f.c]] w fun r w'=>r=.returned (.bool true)/\Below w.heap.size w w':=by
 obtain⟨xs,h1,h2,h3⟩:=h;obtain⟨⟨ds,k1,k2,k3⟩,k4⟩:=k;rw[h2,k4];exact GO h1 (by omega) k1.len (by omega) k1.rd k1.u k1.nrm k1.sg k2
theorem NV.drew(h:NV B w K z e):NV B w.drew K z e:=by
 obtain⟨xs,h1,h2⟩:=h;exact⟨xs,h1.drew,h2⟩
theorem xP(h:PN B w K p n es zs)(k:PR w N q n nc fs zs)(hK:K<=1000)(hN:N<=1000)(hn:n<=1000000):
  Calls Tryz.prog 13 #[.slice p n n,.slice q n nc] w fun r w'=>r=.returned (.bool true)/\Below w.heap.size w w':=by
 have hel:=h.el;have hfl:=k.el;go_enter Tryz.func13,Tryz.ntmps13;go_wp2_with fail;go_loopw [5,6] (fun iv sv wr=>∃j:Nat,j<=n/\iv=.int .i64 j/\Hid (Below w.heap.size w wr)) (fun iv _ _=>n-(intOf iv).toNat)
 case atStart=>exact⟨0,Jz _,by go_num,Jt _ _⟩
 case round=>
  obtain⟨j,hj,rfl,H⟩:=hrel;rcases Ju j n with hlt|hge
  ·have hh:=h.below H.out
   have hk:=k.below H.out;have hv:=hh.ev j hlt;have hw:=hk.ev j hlt;obtain⟨b,o,hp,hc⟩:=hh.pl (by omega)
   obtain⟨c,r,hq,hd⟩:=hk.pl (by omega)
   subst hp hq;obtain⟨c0,c1⟩:=hc j (by omega)
   obtain⟨d0,d1⟩:=hd j (by omega)
   clear hc hd hh hk;go_wp2_with fail;go_region_held3 (fun w'=>w'.cell? ⟨b,o+j*2,none⟩=some (.bool (ge es j).s)/\w'.cell? ⟨b,o+j*2+1,none⟩=some (.slice (ge es j).p (ge es j).n (ge es j).c)/\w'.cell? ⟨c,r+j*2,none⟩=some (.bool (ge fs j).s)/\w'.cell? ⟨c,r+j*2+1,none⟩=some (.slice (ge fs j).p (ge fs j).n (ge fs j).c)) (first|with_reducible exact⟨c0,c1,d0,d1⟩|with_reducible exact dU ⟨c0,c1,d0,d1⟩ hV1|(simp[go_sem, *];done))
    (first
     |(go_at_call 42;refine(Ji (hv.drew) hK hw.drew hN).mono ?_;rintro e w1 ⟨rfl,hb1⟩;have hV1:=aQ hb1))
   have hB:=ae H.out hV1;clear c0 c1 d0 d1 hv hw;go_wp2;go_roundw
   case rel=>exact⟨j+1,by omega,by go_num,hB⟩
   case measure=>simp[intOf];omega
  ·obtain rfl:j=n:=by omega
   go_wp2;go_ret;exact⟨rfl,H.out⟩
theorem dK(p:Option Addr)(n nc:Nat)(w:World)(hn:n<=1000000):
  Calls Tryz.prog 90 #[.slice p n nc] w fun r w'=>r=.returned (.int .i64 ((n:Int)-1))/\Below w.heap.size w w':=by
 have v1:IntKind.i64.wrap ((n:Int)-1)=(n:Int)-1:=by rw[IntKind.wrap_i64];omega
 go_enter Tryz.func90,Tryz.ntmps90;go_wp2;go_ret;exact⟨rfl,Jt _ _⟩
theorem EK(p:Option Addr)(n nc:Nat)(xs:List Int)(w:World)(hl:xs.length=n)(hn:n<=1000000)(hX:Rd w p .i64 xs)(hx:∀j,-9223372036854775808<=gx xs j/\gx xs j<=9223372036854775807):
  Calls Tryz.prog 19 #[.slice p n nc] w (PrP (tr xs) 4 w):=by
 obtain⟨i0,hi,hzz⟩:=Option.map_eq_some_iff.1 iT;simp only[Prod.mk.injEq] at hzz
 obtain⟨hz0,hz1,hz2⟩:=hzz;have HI:Hid (Tryz.prog.info? 65=some i0/\i0.zero=some (.agg #[.bool false,.slice none 0 0])/\i0.size=2/\i0.bytes=32):=⟨hi,hz0,hz1,hz2⟩;have HX:Hid (Rd w p .i64 xs/\∀j,-9223372036854775808<=gx xs j/\gx xs j<=9223372036854775807):=⟨hX,hx⟩;clear hX hx hi hz0 hz1 hz2;go_enter Tryz.func19,Tryz.ntmps19;go_wp2_with fail;go_loopw [3,4] (fun qv iv wr=>∃(k:Nat) (es:List Ent),k<=n/\iv=.int .i64 k/\Hid (es.length=k/\LR w.heap.size wr 4 qv es (xs.take k)/\Below w.heap.size w wr)) (fun _ iv _=>n-(intOf iv).toNat)
 case atStart=>exact⟨0,[],Jz _,by go_num,rfl,by rw[List.take_zero];exact LR.nil _ _ _,Jt _ _⟩
 case round=>
  obtain⟨k,es,hk,rfl,H⟩:=hrel;rcases Ju k n with hlt|hge
  ·obtain⟨hel,hLR,hB⟩:=H.out
   obtain⟨b,o,hp,hc⟩:=(HX.out.1.below hB) (by omega)
   subst hp;have c0:=hc k (by omega)
   obtain⟨x0,x1⟩:=HX.out.2 k;clear hel hLR hB hc;go_wp2_with fail;refine(pN (gx xs k) _ x0 x1).mono ?_;rintro e w1 ⟨s1,p1,n1,d1,rfl,hR1,hv1,hn1,hF1,hb1⟩;have HE:Hid (RE w1 4 (gx xs k) ⟨s1,p1,n1,n1⟩):=⟨⟨d1,hR1,hv1,hn1⟩,rfl⟩;clear c0 hR1 hv1;obtain⟨hi,hz0,hz1,hz2⟩:=HI.out;have hown0:=cD H.out.2.1.own hb1;rw[H.out.1] at hown0
   have HO:Hid (w1.ownsRow w.heap.size 65 2 u3 k (fl es)):=hown0;have hsz:w.heap.size<=w1.heap.size:=JA H.out.2.2.size hb1.size;clear hown0;go_wp2_with (refine wpList_append_lies _ rfl _ _ 31 rfl w.heap.size 65 i0 (.agg #[.bool false,.slice none 0 0]) 2 32 Tryz.underlying31 hi hz0 hz1 hz2 rfl (by decide) u3 k (fl es) rfl (HO.out.alloc _) ⟨w1.heap.size,0,none⟩ 1 1 [.bool s1,.slice p1 n1 n1] rfl rfl ?_ (fun x hx=>by simp at hx;rcases hx with rfl|rfl<;>rfl) (by decide) (by unfold maxLen;omega) (by omega) (by simp;omega) _ rfl ?_;exact World.news_of_block (heap_alloc_new w1 _);intro g cap w3 hown3 hgrow3 hat3 hlt3;have hB3:Below w.heap.size w w3:=((ae H.out.2.2 hb1).alloc hsz _).grown hgrow3 (by simp;omega) (fun q hq=>(HO.out.lt q hq).1);have HA:Hid (LR w.heap.size w3 4 (.slice (some ⟨g,0,none⟩) (k+1) cap) (es++[⟨s1,p1,n1,n1⟩]) (xs.take k++[gx xs k])):=Is H.out.1 H.out.2.1 hb1 HE.out hF1 hown3 hgrow3 hat3;clear hown3 hgrow3 hat3)
   refine⟨⟨k+1,es++[⟨s1,p1,n1,n1⟩],by omega,by go_num,by have:=H.out.1;simp;omega,by rw[eU xs k (by omega)];exact HA.out,hB3⟩,by simp[intOf];omega⟩
  ·obtain rfl:k=n:=by omega
   obtain⟨hel,hLR,hB⟩:=H.out;rw[Jv (by omega)] at hLR
   obtain⟨q,cap,hv,hPR,hF⟩:=hLR.pr;subst hv;rw[hel] at hPR ⊢
   have HB:Hid (Below w.heap.size w wr):=hB;clear H hLR hB hge hk;go_wp2_with fail;refine(gS 4 q k cap es xs _ hPR hn).mono ?_;rintro e w1 ⟨rfl,hb1⟩;have HP:Hid (PR wr 4 q k cap es xs):=hPR;clear hPR;go_wp2;go_ret;have htl:=aj xs;have hcap:=HP.out.cap;have hT:=(HP.out.below hb1).take (ad xs) (ad xs) (by omega) (Jr _) (by omega)
   exact⟨q,ad xs,es.take (ad xs),rfl,hT,hF,aM xs,ae HB.out hb1⟩
variable {l:List (List Int)} {hs:List Hdr}
theorem Ez{B2 T2 E2:Nat}{c:Nat}(H:NO B w K E l p n hs)(G:HR D (EY N E2) w B2 T2 l ⟨q,m,c⟩)(hT:T2<=w.heap.size)(hD:D<=1000)(hK:K<=1000)(hN:N<=1000)(hE:E<=1000000):
  Calls Tryz.prog 15 #[.slice p n n,.slice q m c] w fun r w'=>r=.returned (.bool true)/\Below w.heap.size w w':=by
 obtain⟨rs,k⟩:=G;have hm:m<=D:=k.few;obtain rfl:m=n:=by have h1:=k.tl;have h2:=H.tl;simp only at h1;omega
 have HX:Hid (NO B w K E l p m hs):=H;have HY:Hid (ew D (EY N E2) w B2 T2 l ⟨q,m,c⟩ rs/\T2<=w.heap.size):=⟨k,hT⟩;clear H k hT;go_enter Tryz.func15,Tryz.ntmps15;go_wp2_with fail;go_loopw [5] (fun iv wr=>∃j:Nat,j<=m/\iv=.int .i64 j/\Hid (Below w.heap.size w wr)) (fun iv _=>m-(intOf iv).toNat)
 case atStart=>exact⟨0,Jz _,by go_num,Jt _ _⟩
 case round=>
  obtain⟨j,hj,rfl,G⟩:=hrel;rcases Ju j m with hlt|hge
  ·have g4:=G.out
   obtain⟨b,o,hp,hc⟩:=HX.out.hl (by rw[HX.out.el];show 0<m;omega)
   obtain⟨b',o',hq,hd⟩:=HY.out.1.hl (by rw[HY.out.1.el];show 0<m;omega)
   simp only at hp hq
   subst hp hq;have c0:=eX g4 (hc j (by rw[HX.out.el];exact hlt))
   have d0:=eX g4 (hd j (by rw[HY.out.1.el];exact hlt))
   obtain⟨e1,e2,es2,hN2⟩:=HX.out.ev j hlt;have hE3:=(bO N E2).below (HY.out.1.ev j hlt) HY.out.2 g4;have hN3:=hN2.below g4;generalize gh hs j=hd2 at c0 hN3 e1 e2
   generalize gh rs j=hd3 at d0 hE3
   obtain⟨p2,n2,nc2⟩:=hd2;obtain⟨p3,n3,nc3⟩:=hd3;obtain⟨es3,hP3,f1,-,-,-⟩:=hE3;simp only[Hdr.val] at c0 d0 e1 e2 hN3 hP3 f1
   subst e1 f1;obtain rfl:nc3=nc2:=by rw[<-hP3.zl,<-hN3.zl]
   have i1:(j:Int)<(m:Int):=by omega
   have hcall:=fun w' (hb:Below wr.heap.size wr w')=>xP (hN3.below hb) (hP3.below hb) hK hN (by omega)
   clear hc hd hP3 hN2 hN3 g4;go_wp2_with fail;go_region_held3 (fun w'=>w'.cell? ⟨b,o+j,none⟩=some (.slice p2 nc3 nc3)/\w'.cell? ⟨b',o'+j,none⟩=some (.slice p3 nc3 nc3)) (first|with_reducible exact⟨c0,d0⟩|with_reducible exact fW ⟨c0,d0⟩ hV1|(simp[go_sem, *];done))
    (first
     |(go_at_call 13;go_fit (hcall _ (Jt _ _).drew);rintro e w1 ⟨rfl,hb1⟩;have hV1:=aQ hb1))
   have HB:Hid (Below w.heap.size w w1):=ae G.out hV1;clear c0 d0 hcall hV1 hb1;go_wp2;go_roundw
   case rel=>exact⟨j+1,by omega,by go_num,HB.out⟩
   case measure=>simp[intOf];omega
  ·obtain rfl:j=m:=by omega
   have i1:¬(j:Int)<(j:Int):=by omega
   go_wp2;go_ret;exact⟨rfl,G.out⟩
theorem CI(w:World)(p:Option Addr)(nc:Nat):
  Calls Tryz.prog 95 #[.slice p 0 nc,.int .i64 (-1)] w fun e w'=>e=.returned (.slice none 0 0)/\w'=w:=by
 go_enter Tryz.func95,Tryz.ntmps95;go_wp2;go_ret;exact⟨rfl,rfl⟩
theorem AQ(H:HR D (EY N E) w B T l h)(hD:D<=1000):
  Calls Tryz.prog 46 #[.slice h.p h.n h.c] w fun e w'=>∃hd,e=.returned (Hdr.val hd)/\EY N E w B T (gt l (l.length-1)) hd/\w'=w:=by
 have hl:l.length=h.n/\h.n<=D:=by obtain⟨_,k⟩:=H;exact⟨k.tl,k.few⟩
 rw[hl.1];have hat:=fun i hi=>Ew H i hD hi
 have HN:Hid (h.n=0->EY N E w B T (gt l (h.n-1)) ⟨none,0,0⟩):=fun h0=>by
  rw[gy _ _ (by omega)]
  exact BP N E w B T
 obtain⟨p,n,nc⟩:=h;have hn:=hl.2;simp only at hat hn HN ⊢
 clear H hl;rcases Jw n with h0|h0
 ·subst h0
  go_enter Tryz.func46,Tryz.ntmps46;go_wp2_with fail;go_fit (CI w p nc);rintro e w1 ⟨rfl,hw⟩;subst w1;go_wp2;go_ret;exact⟨⟨none,0,0⟩,rfl,HN.out (by trivial),rfl⟩
 ·obtain⟨i,rfl⟩:∃i,n=i+1:=⟨n-1,by omega⟩
  have v1:wrap64 ((i:Int)+1-1)=(i:Int):=by unfold wrap64;omega
  have hat':=hat i (by omega)
  clear hat;go_enter Tryz.func46,Tryz.ntmps46;go_wp2_with fail;go_fit hat';rintro e w1 ⟨⟨p2,n2,nc2⟩,rfl,he,hw⟩;subst w1;have HE:Hid (EY N E w B T (gt l (i+1-1)) ⟨p2,n2,nc2⟩):=he;clear he hat';simp only[Hdr.val];go_wp2;go_ret;exact⟨⟨p2,n2,nc2⟩,rfl,HE.out,rfl⟩
end Go.Proofs.YtdjjlghlcffflaaGreatDoor
