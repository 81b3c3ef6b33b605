/- Own. -/
import Derived.Test.YtdjjlghlcffflaaGreatDoorRd
set_option linter.unusedVariables false
set_option linter.unusedSimpArgs false
set_option maxHeartbeats 8000000
set_option maxRecDepth 100000
namespace Go.Proofs.YtdjjlghlcffflaaGreatDoor
open Go.RowKit
theorem Ey(s:Bool)(p q:Option Addr)(n nc mc:Nat)(xs:List Int)(w:World)(hA:AI w p n nc xs)(hB:AI w q n mc xs):
  Calls Tryz.prog 84 #[.agg #[.bool s,.slice p n nc],.agg #[.bool s,.slice q n mc]] w fun e w'=>e=.returned (.bool true)/\Below w.heap.size w w':=by
 have hl:=hA.len;have hsm:=hA.sml;have hss:(s != s)=false:=by cases s<;>rfl
 have hnn:((n:Int) != (n:Int))=false:=by simp
 go_enter Tryz.func84,Tryz.ntmps84;go_wp2;have hX:=vW w (.bool s) (.slice p n nc) (.bool s) (.slice q n mc) 50 50;generalize ((w.alloc (Obj.cells #[Value.bool s,Value.slice p n nc] 50)).alloc (Obj.cells #[Value.bool s,Value.slice q n mc] 50))=W at *
 go_loopw [5] (fun iv wr=>∃k:Nat,k<=n/\iv=.int .i64 k/\Hid (Below W.heap.size W wr)) (fun iv _=>n-(intOf iv).toNat)
 case atStart=>exact⟨0,Jz _,rfl,Jt _ _⟩
 case round=>
  obtain⟨k,hk,rfl,H⟩:=hrel;have hXr:=hX.later H.out;have k1:=hXr.ca1;have k3:=hXr.cb1;by_cases hlt:k<n
  ·have hltI:(k:Int)<(n:Int):=by omega
   obtain⟨b1,o1,rfl,hc1⟩:=((hA.below hX.below).rd.below H.out) (by omega)
   obtain⟨b2,o2,rfl,hc2⟩:=((hB.below hX.below).rd.below H.out) (by omega)
   have g1:=hc1 k (by omega)
   have g2:=hc2 k (by omega)
   have hq:(gx xs k != gx xs k)=false:=by simp
   clear hc1 hc2 hXr;go_wp2;go_quiet (fail);go_wp2;refine⟨⟨k+1,by omega,by go_num,below_drewN H.out nq⟩,by simp[intOf];omega⟩
  ·have hltI:¬(k:Int)<(n:Int):=by omega
   go_wp2;go_ret;exact⟨rfl,hX.below.trans (H.out.mono hX.below.size)⟩
theorem iS:(Tryz.prog.info? 3).map (fun i=>(i.zero,i.size,i.bytes))=some (some (.int .i64 0),1,8):=by kernel_rfl
theorem ES(xs:List Int)(k:Nat)(h:k<xs.length):spl (xs.take (k+1))=spl (xs.take k)++[gx xs k%65536,gx xs k/65536]:=by
 rw[oW xs k h,A2];rfl
variable {W:World}
theorem du{x:World}{o:Obj}(h:Below W.heap.size W x):Below W.heap.size W (x.alloc o):=h.alloc h.size o
theorem xF(s:Bool)(p:Option Addr)(n nc:Nat)(ds:List Int)(w:World)(hl:ds.length=n)(hs:n<=1000)(hX:Rd w p .i64 ds)(hU:U16 ds):
  Calls Tryz.prog 62 #[.agg #[.bool s,.slice p n nc]] w fun e w'=>∃p' m cap,e=.returned (.agg #[.bool s,.slice p' m cap])/\AI w' p' m cap (jn ds m)/\Hid (m=(n+1)/2)/\aJ w.heap.size p'/\Below w.heap.size w w':=by
 obtain⟨i0,hi,hzz⟩:=Option.map_eq_some_iff.1 mS;simp only[Prod.mk.injEq] at hzz
 obtain⟨hz0,hz1,hz2⟩:=hzz;have HI:Hid (Tryz.prog.info? 97=some i0/\i0.zero=some (.int .u32 0)/\i0.size=1/\i0.bytes=4):=⟨hi,hz0,hz1,hz2⟩;clear hi hz0 hz1 hz2;go_enter Tryz.func62,Tryz.ntmps62;go_wp2;have hb1:Bx ((w.alloc (.cells #[.bool s,.slice p n nc] 65)).alloc (.cells #[.bool false,.slice none 0 0] 50)) w.heap.size (.bool s) (.slice p n nc):=(Bx.new _ _ _ rfl).alloc _;have hb2:Bx ((w.alloc (.cells #[.bool s,.slice p n nc] 65)).alloc (.cells #[.bool false,.slice none 0 0] 50)) (w.heap.size+1) (.bool false) (.slice none 0 0):=Bx.new _ _ _ (Js ..).symm;have hbw:Below w.heap.size w ((w.alloc (.cells #[.bool s,.slice p n nc] 65)).alloc (.cells #[.bool false,.slice none 0 0] 50)):=((Jt _ _).alloc (Jr _) _).alloc (by simp) _
 have hsz:((w.alloc (.cells #[.bool s,.slice p n nc] 65)).alloc (.cells #[.bool false,.slice none 0 0] 50)).heap.size=w.heap.size+1+1:=by simp
 generalize ((w.alloc (.cells #[.bool s,.slice p n nc] 65)).alloc (.cells #[.bool false,.slice none 0 0] 50))=W at *
 have HS:Hid (W.heap.size=w.heap.size+1+1):=hsz;clear hsz;have hXW:=hX.below hbw;go_loopw [3,4,5] (fun lv iv nv wr=>∃(k:Nat),2*k<=n+1/\iv=.int .i64 ((2*k:Nat):Int)/\Hid (wr.ownsRow W.heap.size 97 1 lv k ((jn ds k).map (Value.int .u32))/\Below W.heap.size W wr)) (fun _ iv _ _=>n+2-(intOf iv).toNat)
 case atStart=>exact⟨0,by omega,rfl,World.ownsRow_nil _ _ _ _,Jt _ _⟩
 case round=>
  obtain⟨k,hk,rfl,H⟩:=hrel;have hBr:=H.out.2;have hb1r:=hb1.later hBr;have hb2r:=hb2.later hBr;have k0:=hb1r.c0;have k1:=hb1r.c1;by_cases hlt:2*k<n
  ·obtain⟨b,off,rfl,hcell⟩:=(hXW.below hBr) (by omega)
   have hck:=hcell (2*k) (by omega)
   have hltI:2*(k:Int)<(n:Int):=by omega
   obtain⟨x0,x1⟩:=hU (2*k);obtain⟨y0,y1⟩:=hU (2*k+1);obtain⟨hi,hz0,hz1,hz2⟩:=HI.out;have HO:Hid (wr.ownsRow W.heap.size 97 1 u3 k ((jn ds k).map (Value.int .u32))):=H.out.1;by_cases hlt2:2*k+1<n
   ·have hck2:=hcell (2*k+1) (by omega)
    have hlt2I:2*(k:Int)+1<(n:Int):=by omega
    clear hcell;go_wp2_with (refine wpList_append_lies _ rfl _ _ 48 rfl W.heap.size 97 i0 (.int .u32 0) 1 4 Tryz.underlying48 hi hz0 hz1 hz2 rfl (by decide) u3 k ((jn ds k).map (Value.int .u32)) rfl (HO.out.alloc _) ⟨wr.heap.size,0,none⟩ 1 1 [.int .u32 (gx ds (2*k)+gx ds (2*k+1)*65536)] rfl rfl ?_ (fun x hx=>by simp at hx;subst hx;rfl) (by decide) (by unfold maxLen;omega) (by omega) (by have:=hBr.size;simp;omega) _ rfl ?_;exact World.news_of_block (heap_alloc_new wr _);intro g cap w3 hown3 hgrow3 hat3 hlt3;have hB3:Below W.heap.size W w3:=(du hBr).grown hgrow3 (by have:=hBr.size;simp;omega) (fun q hq=>(HO.out.lt q hq).1))
    refine⟨⟨k+1,by omega,by go_num,?_,hB3⟩,by simp[intOf];omega⟩
    rw[pG,List.map_append,JI 65536];exact hown3
   ·have hlt2I:¬2*(k:Int)+1<(n:Int):=by omega
    clear hcell;go_wp2_with (refine wpList_append_lies _ rfl _ _ 48 rfl W.heap.size 97 i0 (.int .u32 0) 1 4 Tryz.underlying48 hi hz0 hz1 hz2 rfl (by decide) u3 k ((jn ds k).map (Value.int .u32)) rfl (HO.out.alloc _) ⟨wr.heap.size,0,none⟩ 1 1 [.int .u32 (gx ds (2*k))] rfl rfl ?_ (fun x hx=>by simp at hx;subst hx;rfl) (by decide) (by unfold maxLen;omega) (by omega) (by have:=hBr.size;simp;omega) _ rfl ?_;exact World.news_of_block (heap_alloc_new wr _);intro g cap w3 hown3 hgrow3 hat3 hlt3;have hB3:Below W.heap.size W w3:=(du hBr).grown hgrow3 (by have:=hBr.size;simp;omega) (fun q hq=>(HO.out.lt q hq).1))
    have hg0:gx ds (2*k+1)=0:=ak ds n (by omega) _ (by omega)
    refine⟨⟨k+1,by omega,by go_num,?_,hB3⟩,by simp[intOf];omega⟩
    rw[pG,List.map_append,hg0,JC,Int.add_zero];exact hown3
  ·have hltI:¬2*(k:Int)<(n:Int):=by omega
   have c0:=hb2r.c0;have c1:=hb2r.c1;have f0:=hb2r.f0;have f1:=hb2r.f1;have hform:∃q cap,u3=.slice q k cap/\k<=cap/\cap<=maxLen/\Rd wr q .u32 (jn ds k)/\aJ W.heap.size q:=by
    have hown:=H.out.1;rcases hown.2 with ⟨h1,h2⟩|⟨g,cap,cur,h1,hbg,_,h4,h5,_⟩
    ·refine⟨none,0,by rw[h1,h2],by omega,Jz _,?_,dI⟩
     have:jn ds k=[]:=JB (by rw[fk];omega)
     rw[this];exact Rd.nil
    ·subst h1
     exact⟨_,cap,rfl,h4,h5,gT hown,aY hbg⟩
   obtain⟨q,cap,rfl,hq1,hq2,hq3,hq4⟩:=hform;go_wp2;have hsW:=HS.out;refine bodyPost_ret (v:=.agg #[.bool s,.slice q k cap]) (by simp[results,Tryz.results62,go_sem,c0,c1]) rfl ?_
   refine⟨q,k,cap,rfl,⟨fk _ _,hq1,hq2,by omega,?_,C6 hU k⟩,show k=(n+1)/2 by omega,fun a ha=>by have:=hq4 a ha;omega,?_⟩
   ·exact(hq3.ah _ _ (fun a ha=>by have:=hq4 a ha;simp;omega)).ah _ _ (fun a ha=>by have:=hq4 a ha;simp;omega)
   ·exact((hbw.trans (hBr.mono hbw.size)).setCell (by simp) _).setCell (by simp) _
theorem GV(s:Bool)(p:Option Addr)(n nc:Nat)(ds:List Int)(w:World)(hl:ds.length=n)(hs:n<=1000)(hX:Rd w p .i64 ds)(hU:U16 ds):
  Calls Tryz.prog 62 #[.agg #[.bool s,.slice p n nc]] w fun e w'=>∃p' m cap,e=.returned (.agg #[.bool s,.slice p' m cap])/\AI w' p' m cap (jn ds m)/\Hid (m=(n+1)/2)/\Below w.heap.size w w':=by
 refine(xF s p n nc ds w hl hs hX hU).mono ?_;rintro e w' ⟨p',m,cap,h1,h2,h3,-,h5⟩;exact⟨p',m,cap,h1,h2,h3,h5⟩
variable {w:World} {s:Bool} {p q:Option Addr} {n m mc:Nat} {xs ys:List Int} {z:Int}
theorem IM{B1:Nat}{t:Bool}(h:NI B1 w s p n xs z)(hA:AI w q m mc ys)(k:NN t ys z)(hn:n<=1000):
  Calls Tryz.prog 84 #[.agg #[.bool s,.slice p n n],.agg #[.bool t,.slice q m mc]] w fun e w'=>e=.returned (.bool true)/\Below w.heap.size w w':=by
 obtain⟨rfl,rfl⟩:=Gt h.nn k;obtain rfl:n=m:=h.len.symm.trans hA.len;exact Ey s p q n n mc xs w (h.ai (by omega)) hA
theorem gH(neg:Bool){D:List Int}(h:U16 D):aF (nsg neg D) (tr D)=aF neg D:=by
 rw[aF,aF,lg,nsg];split
 ·rename_i ht
  have h0:=(bj h).1 ht;simp[h0]
 ·rfl
theorem EO(s:Bool)(xs:List Int):aF s (spl xs)=aq s xs:=by rw[aF,aq,I5]
def j_(N:Nat)(z:Int)(w:World)(e:Ending)(w':World):Prop:=
 ∃s' p' n' ds',e=.returned (.agg #[.bool s',.slice p' n' n'])/\RN w' s' p' n' ds'/\aF s' ds'=z/\n'<=N/\aJ w.heap.size p'/\Below w.heap.size w w'
variable {wr:World} {r N:Nat} {u v:Value}
theorem wA{w4:World}{neg:Bool}{D:List Int}(hbw:Below w.heap.size w W)(hr:w.heap.size<=r)(hr':r<W.heap.size)(hBr:Below W.heap.size W wr)(hb4:Below wr.heap.size wr w4)
  (hq3:Rd wr q .i64 D) (hq4:aJ W.heap.size q) (hU:U16 D) (hl:ad D<=1000000000) (hv:aF neg D=z) (hN:ad D<=N):
  j_ N z w (.returned (.agg #[.bool (nsg neg D),.slice q (ad D) (ad D)])) ((w4.setCell ⟨r,0,none⟩ u).setCell ⟨r,1,none⟩ v):=by
 have htl:=aj D;refine⟨_,q,ad D,tr D,rfl,⟨af _,?_,mz hU,aM _,fun h=>by rw[nsg,if_pos h],by omega⟩,by rw[gH neg hU,hv],hN,fun a ha=>JA hbw.size (hq4 a ha),?_⟩
 ·exact((hq3.tr.below hb4).ah _ _ (fun a ha=>by have:=hq4 a ha;simp;omega)).ah _ _ (fun a ha=>by have:=hq4 a ha;simp;omega)
 ·exact(((hbw.trans (hBr.mono hbw.size)).trans (hb4.mono (by have:=hBr.size;have:=hbw.size;omega))).setCell (p:=⟨r,0,none⟩) hr _).setCell (p:=⟨r,1,none⟩) hr _
variable {w1 w2:World}
theorem ph{neg:Bool}{D:List Int}(hbw:Below w.heap.size w W)(hr:w.heap.size<=r)(hr':r<W.heap.size)(hb1:Below W.heap.size W w1)(hb2:Below w1.heap.size w1 w2)
  (hq3:Rd w1 q .i64 D) (hq4:aJ W.heap.size q) (hU:U16 D) (hl:D.length<=N) (hN:N<=1000000000) (hv:aF neg D=z):
  j_ N z w (.returned (.agg #[.bool (nsg neg D),.slice q (ad D) (ad D)])) ((w2.setCell ⟨r,0,none⟩ u).setCell ⟨r,1,none⟩ v):=
 wA hbw hr hr' hb1 hb2 hq3 hq4 hU (by have:=aj D;omega) hv (by have:=aj D;omega)
theorem EM(s:Bool)(xs:List Int):aF (!s) xs = - aF s xs:=by cases s<;>simp[aF]
theorem mf(n:Nat)(h:n<=1000000000)(w:World):(Instr.makeSlice 63 (.int .i64 n) (.int .i64 n)).run Tryz.prog w =
  .ok (.slice (some ⟨w.heap.size,0,none⟩) n n) (w.alloc (.cells (ca .i64 (au n)) 3)):=by
 have hi:=iS
 cases hq:Tryz.prog.info? 3 with
 |none=>rw[hq] at hi;cases hi
 |some i=>
  rw[hq] at hi
  simp only[Option.map_some,Option.some.injEq,Prod.mk.injEq] at hi
  obtain⟨h1,h2,h3⟩:=hi;have hr:=run_make (P:=Tryz.prog) w 63 3 i (.int .i64 0) Tryz.underlying63 hq h1 .i64 .i64 n n (by omega) (Int.le_refl _) (by rw[h3];omega) (by omega)
  rw[Int.toNat_natCast,h2] at hr
  rw[hr];exact congrArg (fun c=>Result.ok (Value.slice (some ⟨w.heap.size,0,none⟩) n n) (w.alloc (.cells c 3))) (mW .i64 n)
variable {ds:List Int}
theorem RN.set(h:RN w s p n ds){a:Addr}(hne:0<n->Off a.block p)(v:Value):RN (w.setCell a v) s p n ds:=
 ⟨h.len,fun hx=>(h.rd.ah a v (hne (by rw[<-h.len];exact hx))) hx,h.u,h.nrm,h.sg,h.sml⟩
theorem RN.alloc(h:RN w s p n ds)(o:Obj):RN (w.alloc o) s p n ds:=⟨h.len,h.rd.alloc o,h.u,h.nrm,h.sg,h.sml⟩
theorem RN.drew(h:RN w s p n ds):RN w.drew s p n ds:=⟨h.len,h.rd.drew,h.u,h.nrm,h.sg,h.sml⟩
theorem Ff{o:Obj}(h:RN w s p n ds):RN (w.alloc o) s p n ds:=h.alloc o
theorem Bn{U:Nat}{a:Addr}(hU:0<n->∀x,p=some x->x.block<U)(ha:U<=a.block)(h:RN w s p n ds):RN (w.setCell a v) s p n ds:=
 h.set (fun hn x hx e=>by have:=hU hn x hx;omega) v
theorem RN.lt(h:RN w s p n ds):0<n->∀x,p=some x->x.block<w.heap.size:=fun hn x hx=>by
 obtain⟨b,off,hp,hlt⟩:=h.rd.lt (by rw[h.len];exact hn)
 rw[hp] at hx
 cases hx
 exact hlt
def RV(w:World)(N:Nat)(z:Int)(s:Bool)(p:Option Addr)(n:Nat):Prop:=∃ds,RN w s p n ds/\aF s ds=z/\n<=N
def RVP(N:Nat)(z:Int)(w:World)(e:Ending)(w':World):Prop:=
 ∃s p n,e=.returned (.agg #[.bool s,.slice p n n])/\RV w' N z s p n/\aJ w.heap.size p/\Below w.heap.size w w'
section
variable {w w':World} {N M K:Nat} {z x y:Int} {s t:Bool} {p q:Option Addr} {n m:Nat}
theorem RV.below(h:RV w N z s p n)(hb:Below w.heap.size w w'):RV w' N z s p n:=by
 obtain⟨ds,h1,h2⟩:=h;exact⟨ds,h1.below hb,h2⟩
theorem RV.drew(h:RV w N z s p n):RV w.drew N z s p n:=by
 obtain⟨ds,h1,h2⟩:=h;exact⟨ds,h1.drew,h2⟩
theorem RV.bd(h:RV w N z s p n):(z.natAbs:Int)<pd N:=by
 obtain⟨ds,h1,rfl,h3⟩:=h;have a:=aI h1.u;have b:=gg h1.u;rw[h1.len] at b
 have c:=dg h3;unfold aF;split<;>omega
theorem RV.tight(h:RV w N z s p n)(hz:(z.natAbs:Int)<pw K):RV w (2*K) z s p n:=by
 obtain⟨ds,h1,rfl,h3⟩:=h;refine⟨ds,h1,rfl,?_⟩;have a:=aI h1.u;have e:((aF s ds).natAbs:Int)=vd ds:=by unfold aF;split<;>omega
 rw[e,<-sH] at hz
 rcases Ju (2*K) n with hk|hk
 ·have b:=db h1.u (by rw[h1.nrm];omega)
  rw[h1.nrm] at b
  have c:=dg (show 2*K<=n-1 by omega)
  omega
 ·exact hk
end
theorem tV(hU:U16 xs)(h:ad xs=0):bf (aF s xs)=0:=by
 have:=(bj hU).1 h
 cases s<;>simp[aF,bf,this]
theorem B7(hU:U16 xs)(h:ad xs≠0):bf (aF s xs)=if s then -1 else 1:=by
 have h1:vd xs≠0:=fun e=>h ((bj hU).2 e)
 have h2:=aI hU
 cases s
 ·simp only[aF,bf,Bool.false_eq_true,if_false];rw[if_neg h1,if_neg (by omega)]
 ·simp only[aF,bf,if_true];rw[if_neg (by omega),if_pos (by omega)]
theorem uY(s:Bool)(p:Option Addr)(n nc:Nat)(xs:List Int)(w:World)(hU:U16 xs)(tx:ad xs=n):
  Calls Tryz.prog 67 #[.agg #[.bool s,.slice p n nc]] w fun e w'=>e=.returned (.int .i64 (bf (aF s xs)))/\Below w.heap.size w w':=by
 by_cases h0:ad xs=0
 ·rw[tV hU h0]
  obtain rfl:n=0:=by omega
  clear h0 tx;go_enter Tryz.func67,Tryz.ntmps67;go_wp2;go_ret;exact⟨rfl,(Jt _ _).alloc (Jr _) _⟩
 ·rw[B7 hU h0]
  have h1:((n:Int)==0)=false:=beq_eq_false_iff_ne.2 (by omega)
  clear tx
  cases s
  all_goals
   go_enter Tryz.func67,Tryz.ntmps67;go_wp2;go_ret;exact⟨rfl,(Jt _ _).alloc (Jr _) _⟩
def RE(w:World)(N:Nat)(z:Int)(e:Ent):Prop:=RV w N z e.s e.p e.n/\e.c=e.n
structure PR(w:World)(N:Nat)(p:Option Addr)(n nc:Nat)(es:List Ent)(zs:List Int):Prop where
 el:es.length=n
 zl:zs.length=n
 cap:n<=nc
 bnd:nc<=maxLen
 pl:PL w p es
 ev:∀j,j<n->RE w N (gx zs j) (ge es j)
section
variable {w w':World} {N:Nat} {z:Int} {e:Ent} {p:Option Addr} {n nc:Nat} {es:List Ent} {zs:List Int}
theorem RE.below(h:RE w N z e)(hb:Below w.heap.size w w'):RE w' N z e:=⟨h.1.below hb,h.2⟩
theorem RE.drew(h:RE w N z e):RE w.drew N z e:=⟨h.1.drew,h.2⟩
theorem PR.below(h:PR w N p n nc es zs)(hb:Below w.heap.size w w'):PR w' N p n nc es zs:=⟨h.el,h.zl,h.cap,h.bnd,h.pl.below hb,fun j hj=>(h.ev j hj).below hb⟩
theorem PR.take(h:PR w N p n nc es zs)(m c:Nat)(hm:m<=n)(hc:m<=c)(hc':c<=nc):PR w N p m c (es.take m) (zs.take m):=
 ⟨by have:=h.el;simp;omega,by have:=h.zl;simp;omega,hc,JA hc' h.bnd,h.pl.take m,fun j hj=>by rw[bm _ _ _ hj,e_ _ _ _ hj];exact h.ev j (by omega)⟩
theorem zF(h:RE w N z e):Calls Tryz.prog 67 #[.agg #[.bool e.s,.slice e.p e.n e.c]] w fun r w'=>r=.returned (.int .i64 (bf z))/\Below w.heap.size w w':=by
 obtain⟨⟨ds,h1,rfl,h3⟩,h4⟩:=h;rw[h4];exact uY e.s e.p e.n e.n ds w h1.u h1.nrm
end
theorem gS(N:Nat)(p:Option Addr)(n nc:Nat)(es:List Ent)(zs:List Int)(w:World)(h:PR w N p n nc es zs)(hn:n<=1000000):
  Calls Tryz.prog 30 #[.slice p n nc] w fun e w'=>e=.returned (.slice p (ad zs) (ad zs))/\Below w.heap.size w w':=by
 have hle:=h.el;go_enter Tryz.func30,Tryz.ntmps30;go_wp2;go_loopw [3] (fun nv wr=>∃k:Nat,k<=n/\nv=.int .i64 k/\Hid ((∀j,k<=j->gx zs j=0)/\Below w.heap.size w wr)) (fun nv _=>(intOf nv).toNat)
 case atStart=>exact⟨n,Jr _,by go_num,fun j hj=>ak zs n (by rw[h.zl];exact Jr _) j hj,Jt _ _⟩
 case round=>
  obtain⟨k,hk,rfl,H⟩:=hrel;rcases Jw k with h0|h0
  ·subst h0
   have HT:Hid (ad zs=0):=aX zs 0 (fun j _=>H.out.1 j (Jz _)) (.inl rfl)
   go_wp2;go_ret;exact⟨by rw[HT.out];rfl,H.out.2⟩
  ·obtain⟨i,rfl⟩:∃i,k=i+1:=⟨k-1,by omega⟩
   obtain⟨H1,H2⟩:=H.out;have HH:Hid ((∀j,i+1<=j->gx zs j=0)/\Below w.heap.size w wr):=⟨H1,H2⟩;have hw:=h.below H2;obtain⟨b,o,hp,hc⟩:=hw.pl (by omega)
   subst hp;obtain⟨c0,c1⟩:=hc i (by omega)
   have hv:=hw.ev i (by omega)
   have hcap:=h.cap;have hbnd:=h.bnd;unfold maxLen at hbnd
   clear H H1 H2 hc;go_wp2_with fail;refine(zF hv).mono ?_;rintro e w1 ⟨rfl,hb1⟩;have hB:=ae HH.out.2 hb1;have hcs:Hid (gx zs i=0\/¬gx zs i=0):=Classical.em _;rcases hcs.out with hz|hz
   ·rw[ot hz]
    have HZ:Hid (gx zs i=0):=hz;clear hz hcs c0 c1 hv;go_wp2;go_roundw
    case rel=>exact⟨i,by omega,by go_num,fun j hj=>by
     rcases Ju i j with h|h
     ·exact HH.out.1 j h
     ·have:j=i:=by omega
      subst this;exact HZ.out,hB⟩
    case measure=>simp[intOf]
   ·have HT:Hid (ad zs=i+1):=aX zs (i+1) HH.out.1 (.inr hz)
    have hi:bf (gx zs i)=1\/bf (gx zs i) = -1:=by
     rcases(show 0<gx zs i\/gx zs i<0 by omega) with h|h
     ·exact .inl (q_ h)
     ·exact .inr (qY h)
    clear hz hcs c0 c1 hv;rcases hi with hi|hi
    all_goals
     rw[hi];clear hi;go_wp2;go_ret;exact⟨by rw[HT.out];rfl,hB⟩
theorem GS(a:Int)(w:World)(h0:0<a)(h1:a<=9223372036854775808):
  Calls Tryz.prog 48 #[.int .i64 (-a)] w (j_ 4 (-a) w):=by
 obtain⟨i0,hi,hzz⟩:=Option.map_eq_some_iff.1 iS;simp only[Prod.mk.injEq] at hzz
 obtain⟨hz0,hz1,hz2⟩:=hzz;have HI:Hid (Tryz.prog.info? 3=some i0/\i0.zero=some (.int .i64 0)/\i0.size=1/\i0.bytes=8):=⟨hi,hz0,hz1,hz2⟩;clear hi hz0 hz1 hz2;have hcmp:-a<0:=by omega
 go_enter Tryz.func48,Tryz.ntmps48;go_wp2;have hb2:Bx (w.alloc (.cells #[.bool false,.slice none 0 0] 65)) w.heap.size (.bool false) (.slice none 0 0):=Bx.new _ _ _ rfl;have hbw:Below w.heap.size w (w.alloc (.cells #[.bool false,.slice none 0 0] 65)):=(Jt _ _).alloc (Jr _) _;have hsz:(w.alloc (.cells #[.bool false,.slice none 0 0] 65)).heap.size=w.heap.size+1:=by simp
 generalize (w.alloc (.cells #[.bool false,.slice none 0 0] 65))=W at *
 have HS:Hid (W.heap.size=w.heap.size+1):=hsz;clear hsz;go_loopw [0,4,5] (fun nv dv kv wr=>∃(k:Nat) (m:Int) (ds:List Int),nv=.int .i64 (-m)/\0<=m/\m<=9223372036854775808/\ds.length=k/\Hid (a=vd ds+pd k*m/\U16 ds/\wr.ownsRow W.heap.size 3 1 dv k (ds.map (Value.int .i64))/\Below W.heap.size W wr)) (fun nv _ _ _=>(intOf nv).natAbs)
 case atStart=>exact⟨0,a,[],rfl,by omega,by omega,rfl,by simp[vd,mj],j9,World.ownsRow_nil _ _ _ _,Jt _ _⟩
 case round=>
  obtain⟨k,m,ds,rfl,hm0,hm1,hkl,H⟩:=hrel;have hBr:=H.out.2.2.2;have HV:Hid (a=vd ds+pd k*m/\U16 ds):=⟨H.out.1,H.out.2.1⟩;have HO:Hid (wr.ownsRow W.heap.size 3 1 u4 k (ds.map (Value.int .i64))):=H.out.2.2.1;clear H;have hb2r:=hb2.later hBr;have HK:Hid (0<m->k<4):=fun hm=>by
   rcases Ju k 4 with h|h
   ·exact h
   ·exfalso
    have e1:=dg h;have e2:pd 4=18446744073709551616:=rfl;have e3:=aI HV.out.2;have e4:pd k*1<=pd k*m:=Jx (by omega) (Int.le_of_lt (dp k))
    have e5:=HV.out.1;omega
  have HL:Hid (ds.length=k):=hkl;by_cases hlt:0<m
  ·have hk4:=HK.out hlt
   obtain⟨hi,hz0,hz1,hz2⟩:=HI.out;clear hkl;have q1:(-m).tmod 65536 = -(m%65536):=by rw[Int.neg_tmod,Int.tmod_eq_emod_of_nonneg (by omega)]
   have q2:(-m).tdiv 65536 = -(m/65536):=by rw[Int.neg_tdiv,JM (by omega)]
   have q5:(-m != 0)=true:=by rw[bne_iff_ne];omega
   have hkl:=HL.out;clear hkl;by_cases hm0:m%65536=0
   ·have q6:¬-(m%65536)<0:=by omega
    have q7:-(m%65536)=0:=by omega
    go_wp2_with (refine wpList_append_lies _ rfl _ _ 63 rfl W.heap.size 3 i0 (.int .i64 0) 1 8 Tryz.underlying63 hi hz0 hz1 hz2 rfl (by decide) u4 k (ds.map (Value.int .i64)) rfl (HO.out.alloc _) ⟨wr.heap.size,0,none⟩ 1 1 [.int .i64 (0)] rfl rfl ?_ (fun x hx=>by simp at hx;subst hx;rfl) (by decide) (by unfold maxLen;omega) (by omega) (by have:=hBr.size;simp;omega) _ rfl ?_;exact World.news_of_block (heap_alloc_new wr _);intro g cap w3 hown3 hgrow3 hat3 hlt3;have hB3:Below W.heap.size W w3:=(du hBr).grown hgrow3 (by have:=hBr.size;simp;omega) (fun q hq=>(HO.out.lt q hq).1))
    refine⟨⟨k+1,m/65536,ds++[0],by go_num,by omega,by omega,by have:=HL.out;simp;omega,?_,cV HV.out.2 (dM (by omega)),?_,hB3⟩,by simp[intOf];omega⟩
    ·rw[cO,dz,bU,HL.out,HV.out.1]
     have:=jM (pd k) m;rw[hm0] at this;omega
    ·rw[List.map_append]
     exact hown3
   ·have q6:-(m%65536)<0:=by omega
    go_wp2_with (refine wpList_append_lies _ rfl _ _ 63 rfl W.heap.size 3 i0 (.int .i64 0) 1 8 Tryz.underlying63 hi hz0 hz1 hz2 rfl (by decide) u4 k (ds.map (Value.int .i64)) rfl (HO.out.alloc _) ⟨wr.heap.size,0,none⟩ 1 1 [.int .i64 (m%65536)] rfl rfl ?_ (fun x hx=>by simp at hx;subst hx;rfl) (by decide) (by unfold maxLen;omega) (by omega) (by have:=hBr.size;simp;omega) _ rfl ?_;exact World.news_of_block (heap_alloc_new wr _);intro g cap w3 hown3 hgrow3 hat3 hlt3;have hB3:Below W.heap.size W w3:=(du hBr).grown hgrow3 (by have:=hBr.size;simp;omega) (fun q hq=>(HO.out.lt q hq).1))
    refine⟨⟨k+1,m/65536,ds++[m%65536],by go_num,by omega,by omega,by have:=HL.out;simp;omega,?_,cV HV.out.2 (dM (by omega)),?_,hB3⟩,by simp[intOf];omega⟩
    ·rw[cO,dz,bU,HL.out,HV.out.1]
     have:=jM (pd k) m;omega
    ·rw[List.map_append]
     exact hown3
  ·obtain rfl:m=0:=by omega
   have hform:∃q cap,u4=.slice q k cap/\k<=cap/\cap<=maxLen/\Rd wr q .i64 ds/\aJ W.heap.size q:=by
    have hown:=HO.out;rcases hown.2 with ⟨h1,h2⟩|⟨g,cap,cur,h1,hbg,_,h4,h5,_⟩
    ·refine⟨none,0,by rw[h1,h2],by omega,Jz _,?_,dI⟩
     have:ds=[]:=JB (by omega)
     rw[this];exact Rd.nil
    ·subst h1
     exact⟨_,cap,rfl,h4,h5,gT hown,aY hbg⟩
   obtain⟨q,cap,rfl,hq1,hq2,hq3,hq4⟩:=hform;have hva:a=vd ds:=by have:=HV.out.1;omega
   have HA:Hid (a=vd ds):=hva;clear hva;have hq2':=hq2;unfold maxLen at hq2'
   go_wp2_with fail;refine(bI true q k cap ds _ hkl hq1 hq2 hq3).mono ?_;rintro e w4 ⟨rfl,hb4⟩;obtain⟨z0,z1,z2,z3⟩:=cj hb4 hb2r.c0 hb2r.c1 hb2r.f0 hb2r.f1;go_wp2;have hsW:=HS.out;have htl:ad ds<=4:=by
    rcases Ju 4 (ad ds) with h|h
    ·exfalso
     have e1:=db HV.out.2 (by omega)
     have e2:pd 4<=pd (ad ds-1):=dg (by omega)
     have e3:pd 4=18446744073709551616:=rfl;have e5:=HA.out;omega
    ·exact h
   refine bodyPost_ret (v:=.agg #[.bool (nsg true ds),.slice q (ad ds) (ad ds)]) (by simp[results,Tryz.results48,go_sem,z0,z1]) rfl ?_
   exact wA hbw (Jr _) (by omega) hBr hb4 hq3 hq4 HV.out.2 (by omega) (by rw[HA.out];rfl) htl
theorem GU(a:Int)(w:World)(h0:0<=a)(h1:a<=9223372036854775807):
  Calls Tryz.prog 48 #[.int .i64 (a)] w (j_ 4 (a) w):=by
 obtain⟨i0,hi,hzz⟩:=Option.map_eq_some_iff.1 iS;simp only[Prod.mk.injEq] at hzz
 obtain⟨hz0,hz1,hz2⟩:=hzz;have HI:Hid (Tryz.prog.info? 3=some i0/\i0.zero=some (.int .i64 0)/\i0.size=1/\i0.bytes=8):=⟨hi,hz0,hz1,hz2⟩;clear hi hz0 hz1 hz2;have hcmp:¬a<0:=by omega
 go_enter Tryz.func48,Tryz.ntmps48;go_wp2;have hb2:Bx (w.alloc (.cells #[.bool false,.slice none 0 0] 65)) w.heap.size (.bool false) (.slice none 0 0):=Bx.new _ _ _ rfl;have hbw:Below w.heap.size w (w.alloc (.cells #[.bool false,.slice none 0 0] 65)):=(Jt _ _).alloc (Jr _) _;have hsz:(w.alloc (.cells #[.bool false,.slice none 0 0] 65)).heap.size=w.heap.size+1:=by simp
 generalize (w.alloc (.cells #[.bool false,.slice none 0 0] 65))=W at *
 have HS:Hid (W.heap.size=w.heap.size+1):=hsz;clear hsz;go_loopw [0,4,5] (fun nv dv kv wr=>∃(k:Nat) (m:Int) (ds:List Int),nv=.int .i64 (m)/\0<=m/\m<=9223372036854775808/\ds.length=k/\Hid (a=vd ds+pd k*m/\U16 ds/\wr.ownsRow W.heap.size 3 1 dv k (ds.map (Value.int .i64))/\Below W.heap.size W wr)) (fun nv _ _ _=>(intOf nv).natAbs)
 case atStart=>exact⟨0,a,[],rfl,by omega,by omega,rfl,by simp[vd,mj],j9,World.ownsRow_nil _ _ _ _,Jt _ _⟩
 case round=>
  obtain⟨k,m,ds,rfl,hm0,hm1,hkl,H⟩:=hrel;have hBr:=H.out.2.2.2;have HV:Hid (a=vd ds+pd k*m/\U16 ds):=⟨H.out.1,H.out.2.1⟩;have HO:Hid (wr.ownsRow W.heap.size 3 1 u4 k (ds.map (Value.int .i64))):=H.out.2.2.1;clear H;have hb2r:=hb2.later hBr;have HK:Hid (0<m->k<4):=fun hm=>by
   rcases Ju k 4 with h|h
   ·exact h
   ·exfalso
    have e1:=dg h;have e2:pd 4=18446744073709551616:=rfl;have e3:=aI HV.out.2;have e4:pd k*1<=pd k*m:=Jx (by omega) (Int.le_of_lt (dp k))
    have e5:=HV.out.1;omega
  have HL:Hid (ds.length=k):=hkl;by_cases hlt:0<m
  ·have hk4:=HK.out hlt
   obtain⟨hi,hz0,hz1,hz2⟩:=HI.out;clear hkl;have q1:m.tmod 65536=m%65536:=Int.tmod_eq_emod_of_nonneg (by omega)
   have q2:m.tdiv 65536=m/65536:=JM (by omega)
   have q5:(m != 0)=true:=by rw[bne_iff_ne];omega
   have hkl:=HL.out;clear hkl
   ·have q6:¬m%65536<0:=by omega
    go_wp2_with (refine wpList_append_lies _ rfl _ _ 63 rfl W.heap.size 3 i0 (.int .i64 0) 1 8 Tryz.underlying63 hi hz0 hz1 hz2 rfl (by decide) u4 k (ds.map (Value.int .i64)) rfl (HO.out.alloc _) ⟨wr.heap.size,0,none⟩ 1 1 [.int .i64 (m%65536)] rfl rfl ?_ (fun x hx=>by simp at hx;subst hx;rfl) (by decide) (by unfold maxLen;omega) (by omega) (by have:=hBr.size;simp;omega) _ rfl ?_;exact World.news_of_block (heap_alloc_new wr _);intro g cap w3 hown3 hgrow3 hat3 hlt3;have hB3:Below W.heap.size W w3:=(du hBr).grown hgrow3 (by have:=hBr.size;simp;omega) (fun q hq=>(HO.out.lt q hq).1))
    refine⟨⟨k+1,m/65536,ds++[m%65536],by go_num,by omega,by omega,by have:=HL.out;simp;omega,?_,cV HV.out.2 (dM (by omega)),?_,hB3⟩,by simp[intOf];omega⟩
    ·rw[cO,dz,bU,HL.out,HV.out.1]
     have:=jM (pd k) m;omega
    ·rw[List.map_append]
     exact hown3
  ·obtain rfl:m=0:=by omega
   have hform:∃q cap,u4=.slice q k cap/\k<=cap/\cap<=maxLen/\Rd wr q .i64 ds/\aJ W.heap.size q:=by
    have hown:=HO.out;rcases hown.2 with ⟨h1,h2⟩|⟨g,cap,cur,h1,hbg,_,h4,h5,_⟩
    ·refine⟨none,0,by rw[h1,h2],by omega,Jz _,?_,dI⟩
     have:ds=[]:=JB (by omega)
     rw[this];exact Rd.nil
    ·subst h1
     exact⟨_,cap,rfl,h4,h5,gT hown,aY hbg⟩
   obtain⟨q,cap,rfl,hq1,hq2,hq3,hq4⟩:=hform;have hva:a=vd ds:=by have:=HV.out.1;omega
   have HA:Hid (a=vd ds):=hva;clear hva;have hq2':=hq2;unfold maxLen at hq2'
   go_wp2_with fail;refine(bI false q k cap ds _ hkl hq1 hq2 hq3).mono ?_;rintro e w4 ⟨rfl,hb4⟩;obtain⟨z0,z1,z2,z3⟩:=cj hb4 hb2r.c0 hb2r.c1 hb2r.f0 hb2r.f1;go_wp2;have hsW:=HS.out;have htl:ad ds<=4:=by
    rcases Ju 4 (ad ds) with h|h
    ·exfalso
     have e1:=db HV.out.2 (by omega)
     have e2:pd 4<=pd (ad ds-1):=dg (by omega)
     have e3:pd 4=18446744073709551616:=rfl;have e5:=HA.out;omega
    ·exact h
   refine bodyPost_ret (v:=.agg #[.bool (nsg false ds),.slice q (ad ds) (ad ds)]) (by simp[results,Tryz.results48,go_sem,z0,z1]) rfl ?_
   exact wA hbw (Jr _) (by omega) hBr hb4 hq3 hq4 HV.out.2 (by omega) (by rw[HA.out];rfl) htl
theorem pN(z:Int)(w:World)(h0:-9223372036854775808<=z)(h1:z<=9223372036854775807):Calls Tryz.prog 48 #[.int .i64 z] w (j_ 4 z w):=by
 by_cases h:z<0
 ·have:=GS (-z) w (by omega) (by omega)
  rwa [Int.neg_neg] at this
 ·exact GU z w (by omega) h1
variable {w':World}
theorem Rd.grown{k:IntKind}{row:Option Nat}(h:Rd w p k xs)(hg:w.grownBy w' row)(hne:0<xs.length->∀a,p=some a->some a.block≠row):Rd w' p k xs:=fun hx=>h.kept hg (hne hx) hx
variable {e:Ent}
theorem RE.grown{row:Option Nat}(h:RE w N z e)(hg:w.grownBy w' row)(hne:0<e.n->∀a,e.p=some a->some a.block≠row):RE w' N z e:=by
 obtain⟨⟨ds,h1,h2,h3⟩,h4⟩:=h;exact⟨⟨ds,⟨h1.len,h1.rd.grown hg (by rw[h1.len];exact hne),h1.u,h1.nrm,h1.sg,h1.sml⟩,h2,h3⟩,h4⟩
theorem RE.lt(h:RE w N z e):0<e.n->∀a,e.p=some a->a.block<w.heap.size:=by
 obtain⟨⟨ds,h1,h2,h3⟩,h4⟩:=h;exact h1.lt
structure LR(base:Nat)(w:World)(N:Nat)(v:Value)(es:List Ent)(zs:List Int):Prop where
 own:w.ownsRow base 65 2 v es.length (fl es)
 zl:zs.length=es.length
 ev:∀j,j<es.length->RE w N (gx zs j) (ge es j)
 off:∀j,j<es.length->0<(ge es j).n->∀a,(ge es j).p=some a->some a.block≠v.ownBlock
theorem LR.nil(base:Nat)(w:World)(N:Nat):LR base w N (.slice none 0 0) [] []:=⟨World.ownsRow_nil _ _ _ _,rfl,fun j hj=>by simp at hj,fun j hj=>by simp at hj⟩
variable {base g cap:Nat} {w3:World} {es:List Ent} {zs:List Int}
theorem LR.app{o:Obj}(h:LR base wr N v es zs)(hb1:Below wr.heap.size wr w1)(hE:RE w1 N z e)(hF:aJ wr.heap.size e.p)
  (hown:w3.ownsRow base 65 2 (.slice (some ⟨g,0,none⟩) (es.length+1) cap) (es.length+1) (fl es++[.bool e.s,.slice e.p e.n e.c])) (hgrow:(w1.alloc o).grownBy w3 v.ownBlock) (hat:v.ownBlock=some g\/g=(w1.alloc o).heap.size):
  LR base w3 N (.slice (some ⟨g,0,none⟩) (es.length+1) cap) (es++[e]) (zs++[z]):=by
 have hal:Below w1.heap.size w1 (w1.alloc o):=(Jt _ _).alloc (Jr _) o;have hs1:=hb1.size;have hs2:=hal.size;have old:∀j,j<es.length->RE (w1.alloc o) N (gx zs j) (ge es j):=fun j hj=>((h.ev j hj).below hb1).below hal
 have new:RE (w1.alloc o) N z e:=hE.below hal;have noff:0<e.n->∀a,e.p=some a->some a.block≠v.ownBlock:=fun _ a ha hq=>by
  have h1:=(h.own.lt a.block hq.symm).2;have h2:=hF a ha;omega
 refine⟨by rw[List.length_append,y_];exact hown,by simp[h.zl],fun j hj=>?_,fun j hj hn a ha hq=>?_⟩
 ·rcases Ju j es.length with hlt|hge
  ·rw[cy _ _ _ hlt,cz _ _ _ (by rw[h.zl];exact hlt)]
   exact(old j hlt).grown hgrow (h.off j hlt)
  ·have:j=es.length:=by simp at hj;omega
   subst this;have e1:gx (zs++[z]) es.length=z:=by rw[<-h.zl,cf _ _ _ (Jr _),Nat.sub_self];rfl
   rw[fH,e1];exact new.grown hgrow noff
 ·have hq':a.block=g:=Option.some.inj hq
  rcases Ju j es.length with hlt|hge
  ·rw[cy _ _ _ hlt] at hn ha
   rcases hat with h1|h1
   ·exact h.off j hlt hn a ha (by rw[h1,hq'])
   ·have:=(old j hlt).lt hn a ha
    omega
  ·have:j=es.length:=by simp at hj;omega
   subst this;rw[fH] at hn ha
   rcases hat with h1|h1
   ·exact noff hn a ha (by rw[h1,hq'])
   ·have:=new.lt hn a ha
    omega
theorem LR.pr(h:LR base w N v es zs):∃q cap,v=.slice q es.length cap/\PR w N q es.length cap es zs/\aJ base q:=by
 obtain⟨q,cap,h1,h2,h3,h4,-⟩:=sE h.own;have ho:=h.own;rw[h1] at ho
 exact⟨q,cap,h1,⟨rfl,h.zl,h2,h3,xe ho,h.ev⟩,h4⟩
theorem iT:(Tryz.prog.info? 65).map (fun i=>(i.zero,i.size,i.bytes))=some (some (.agg #[.bool false,.slice none 0 0]),2,32):=by kernel_rfl
variable {k:Nat}
theorem Is{o:Obj}(hk:es.length=k)(h:LR base wr N v es zs)(hb1:Below wr.heap.size wr w1)(hE:RE w1 N z ⟨s,p,n,n⟩)(hF:aJ wr.heap.size p)
  (hown:w3.ownsRow base 65 2 (.slice (some ⟨g,0,none⟩) (k+1) cap) (k+1) (fl es++[.bool s,.slice p n n])) (hgrow:(w1.alloc o).grownBy w3 v.ownBlock) (hat:v.ownBlock=some g\/g=(w1.alloc o).heap.size):
  LR base w3 N (.slice (some ⟨g,0,none⟩) (k+1) cap) (es++[⟨s,p,n,n⟩]) (zs++[z]):=by
 subst hk;exact h.app hb1 hE hF hown hgrow hat
def PrP(zs:List Int)(N:Nat)(w:World)(e:Ending)(w':World):Prop:=
 ∃p n es,e=.returned (.slice p n n)/\PR w' N p n n es zs/\aJ w.heap.size p/\ad zs=n/\Below w.heap.size w w'
def PrF(zs:List Int)(N:Nat)(w:World)(e:Ending)(w':World):Prop:=
 ∃p n es,e=.returned (.slice p n n)/\PR w' N p n n es zs/\aJ w.heap.size p/\ad zs=n/\(∀j,j<n->0<(ge es j).n->aJ w.heap.size (ge es j).p)/\Below w.heap.size w w'
theorem PrF.any{e:Ending}(h:PrF zs N w e w'):PrP zs N w e w':=by
 obtain⟨q,m,es,h1,h2,h3,h4,-,h5⟩:=h;exact⟨q,m,es,h1,h2,h3,h4,h5⟩
structure Vr(w:World)(g:Nat)(s:Bool)(p:Option Addr)(n nc F:Nat)(xs:List Int):Prop where
 b:Bx w g (.bool s) (.slice p n nc)
 a:AI w p n nc xs
 f:aJ F p
def Di(s:Bool)(xs:List Int)(w:World)(e:Ending)(w':World):Prop:=
 ∃s' p' n',e=.returned (.agg #[.bool s',.slice p' n' n'])/\RN w' s' p' n' (tr (spl xs))/\s'=nsg s (spl xs)/\aJ w.heap.size p'/\Below w.heap.size w w'
theorem Dj(s:Bool)(p:Option Addr)(n nc:Nat)(xs:List Int)(w:World)(hA:AI w p n nc xs):
  Calls Tryz.prog 29 #[.agg #[.bool s,.slice p n nc]] w (Di s xs w):=by
 obtain⟨i0,hi,hzz⟩:=Option.map_eq_some_iff.1 iS;simp only[Prod.mk.injEq] at hzz
 obtain⟨hz0,hz1,hz2⟩:=hzz;have HI:Hid (Tryz.prog.info? 3=some i0/\i0.zero=some (.int .i64 0)/\i0.size=1/\i0.bytes=8):=⟨hi,hz0,hz1,hz2⟩;clear hi hz0 hz1 hz2;have hl:=hA.len;have hs:=hA.sml;go_enter Tryz.func29,Tryz.ntmps29;go_wp2;have hb1:Bx ((w.alloc (.cells #[.bool s,.slice p n nc] 50)).alloc (.cells #[.bool false,.slice none 0 0] 65)) w.heap.size (.bool s) (.slice p n nc):=(Bx.new _ _ _ rfl).alloc _;have hb2:Bx ((w.alloc (.cells #[.bool s,.slice p n nc] 50)).alloc (.cells #[.bool false,.slice none 0 0] 65)) (w.heap.size+1) (.bool false) (.slice none 0 0):=Bx.new _ _ _ (Js ..).symm;have hbw:Below w.heap.size w ((w.alloc (.cells #[.bool s,.slice p n nc] 50)).alloc (.cells #[.bool false,.slice none 0 0] 65)):=((Jt _ _).alloc (Jr _) _).alloc (by simp) _
 have hsz:((w.alloc (.cells #[.bool s,.slice p n nc] 50)).alloc (.cells #[.bool false,.slice none 0 0] 65)).heap.size=w.heap.size+1+1:=by simp
 generalize ((w.alloc (.cells #[.bool s,.slice p n nc] 50)).alloc (.cells #[.bool false,.slice none 0 0] 65))=W at *
 have HS:Hid (W.heap.size=w.heap.size+1+1):=hsz;clear hsz;have hAW:=hA.below hbw;go_loopw [3,4] (fun dv iv wr=>∃(k:Nat),k<=n/\iv=.int .i64 k/\Hid (wr.ownsRow W.heap.size 3 1 dv (2*k) ((spl (xs.take k)).map (Value.int .i64))/\Below W.heap.size W wr)) (fun _ iv _=>n-(intOf iv).toNat)
 case atStart=>exact⟨0,Jz _,rfl,World.ownsRow_nil _ _ _ _,Jt _ _⟩
 case round=>
  obtain⟨k,hk,rfl,H⟩:=hrel;have hBr:=H.out.2;have hb1r:=hb1.later hBr;have hb2r:=hb2.later hBr;have k0:=hb1r.c0;have k1:=hb1r.c1;by_cases hlt:k<n
  ·obtain⟨b,off,rfl,hcell⟩:=(hAW.rd.below hBr) (by omega)
   have hck:=hcell k (by omega)
   obtain⟨x0,x1⟩:=hA.u k;have hltI:(k:Int)<(n:Int):=by omega
   have q1:(gx xs k).tmod 65536=gx xs k%65536:=Int.tmod_eq_emod_of_nonneg x0;have q2:(gx xs k).tdiv 65536=gx xs k/65536:=JM x0;have q3:IntKind.i64.wrap (gx xs k%65536)=gx xs k%65536:=by rw[IntKind.wrap_i64];omega
   have q4:IntKind.u32.wrap (gx xs k/65536)=gx xs k/65536:=by rw[IntKind.wrap_u32'];omega
   have q5:IntKind.i64.wrap (gx xs k/65536)=gx xs k/65536:=by rw[IntKind.wrap_i64];omega
   have hbl:b<wr.heap.size:=block_lt_of_cell hck;obtain⟨b',off',hp',hcellW⟩:=hAW.rd (by omega)
   cases hp'
   have hckW:=hcellW k (by omega)
   have hwl:w.heap.size<wr.heap.size:=by have h1:=HS.out;have h2:=hBr.size;omega
   clear hcell hcellW;obtain⟨hi,hz0,hz1,hz2⟩:=HI.out;have hown:=H.out.1;have HO:Hid (wr.ownsRow W.heap.size 3 1 u3 (2*k) ((spl (xs.take k)).map (Value.int .i64))):=hown;clear hown;go_wp2;go_region_held3 (fun w'=>w'.cell? ⟨w.heap.size,1,none⟩=some (.slice (some ⟨b,off,none⟩) n nc)/\w'.cell? ⟨b,off+k,none⟩=some (.int .u32 (gx xs k))) (first|exact⟨by assumption,by assumption⟩|(simp[go_sem, *];done))
    (first
     |(refine step_append_lies _ rfl _ _ 63 rfl W.heap.size 3 i0 (.int .i64 0) 1 8 Tryz.underlying63 hi hz0 hz1 hz2 rfl (by decide) u3 (2*k) ((spl (xs.take k)).map (Value.int .i64)) rfl (HO.out.alloc _) ⟨wr.heap.size,0,none⟩ 2 2 [.int .i64 (gx xs k%65536),.int .i64 (gx xs k/65536)] rfl rfl ?_ (fun x hx=>by simp at hx;rcases hx with rfl|rfl<;>rfl) (by decide) (by unfold maxLen;omega) (by omega) (by have:=hBr.size;simp;omega) _ rfl ?_;exact fun j u hu=>(World.cell?_drew ..).trans (cell_two_new wr _ _ _ j u hu);intro g cap w3 hown3 hgrow3 hat3 hlt3;have hB3:Below W.heap.size W w3:=(du hBr.drew).grown hgrow3 (by have:=hBr.size;simp;omega) (fun q hq=>(HO.out.lt q hq).1);have e1:=cell_later hB3 hb1.c1;have e2:=cell_later hB3 hckW))
   go_wp2;refine⟨⟨k+1,by omega,by go_num,?_,hB3⟩,by simp[intOf];omega⟩
   rw[ES xs k (by omega),List.map_append,show 2*(k+1)=2*k+2 by omega]
   exact hown3
  ·have hkn:k=n:=by omega
   subst hkn;have c0:=hb2r.c0;have c1:=hb2r.c1;obtain⟨hown,_⟩:=H.out;rw[Jv (by omega)] at hown
   have hform:∃q cap,u3=.slice q (2*k) cap/\2*k<=cap/\cap<=maxLen/\Rd wr q .i64 (spl xs)/\aJ W.heap.size q:=by
    rcases hown.2 with ⟨h1,h2⟩|⟨g,cap,cur,h1,hbg,_,h4,h5,_⟩
    ·refine⟨none,0,by rw[h1,h2],by omega,Jz _,?_,dI⟩
     have:spl xs=[]:=JB (by rw[jP];omega)
     rw[this];exact Rd.nil
    ·subst h1
     exact⟨_,cap,rfl,h4,h5,gT hown,aY hbg⟩
   obtain⟨q,cap,rfl,hq1,hq2,hq3,hq4⟩:=hform;clear hown;go_wp2_with fail;refine(bI s q (2*k) cap (spl xs) _ (by rw[jP];omega) hq1 hq2 hq3).mono ?_
   rintro e w4 ⟨rfl,hb4⟩;obtain⟨z0,z1,z2,z3⟩:=cj hb4 hb2r.c0 hb2r.c1 hb2r.f0 hb2r.f1;go_wp2;have htl:=aj (spl xs);rw[jP] at htl
   have hsW:=HS.out;refine bodyPost_ret (v:=.agg #[.bool (nsg s (spl xs)),.slice q (ad (spl xs)) (ad (spl xs))]) (by simp[results,Tryz.results29,go_sem,z0,z1]) rfl ?_
   refine⟨_,q,ad (spl xs),rfl,⟨af _,?_,mz (zT hA.u),aM _,fun h=>by rw[nsg,if_pos h],by omega⟩,rfl,fun a ha=>by have:=hq4 a ha;omega,?_⟩
   ·exact((hq3.tr.below hb4).ah _ _ (fun a ha=>by have:=hq4 a ha;simp;omega)).ah _ _ (fun a ha=>by have:=hq4 a ha;simp;omega)
   ·exact(((hbw.trans (hBr.mono hbw.size)).trans (hb4.mono (by have:=hBr.size;have:=hbw.size;omega))).setCell (by simp) _).setCell (by simp) _
end Go.Proofs.YtdjjlghlcffflaaGreatDoor
