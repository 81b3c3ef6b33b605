/- Own. -/
import Derived.Test.YtdjjlghlcffflaaGreatDoorRp
set_option linter.unusedVariables false
set_option linter.unusedSimpArgs false
set_option maxHeartbeats 8000000
set_option maxRecDepth 100000
namespace Go.Proofs.YtdjjlghlcffflaaGreatDoor
open Go.RowKit
variable {w:World} {N M:Nat} {z:Int} {e:Ent}
theorem RE.wide(h:RE w N z e)(hM:N<=M):RE w M z e:=by
 obtain⟨⟨ds,h1,h2,h3⟩,h4⟩:=h;exact⟨⟨ds,h1,h2,by omega⟩,h4⟩
variable {x y:Int} {f:Ent}
theorem xC(h:RE w N x e)(k:RE w M y f)(hN:N<=1000)(hM:M<=1000):
  Calls Tryz.prog 64 #[.agg #[.bool e.s,.slice e.p e.n e.c],.agg #[.bool f.s,.slice f.p f.n f.c]] w fun r w'=>∃u:Ent,r=.returned (.agg #[.bool u.s,.slice u.p u.n u.c])/\RE w' (N+M+1) (x+y) u/\aJ w.heap.size u.p/\Below w.heap.size w w':=by
 obtain⟨⟨xs,h1,rfl,h3⟩,h4⟩:=h;obtain⟨⟨ys,k1,rfl,k3⟩,k4⟩:=k;rw[h4,k4];refine(GM h1 k1 (by omega) (by omega)).mono ?_
 rintro e w1 ⟨s1,p1,n1,d1,rfl,hR1,hv1,hn1,hF1,hb1⟩;exact⟨⟨s1,p1,n1,n1⟩,rfl,⟨⟨d1,hR1,hv1,by show n1<=_;omega⟩,rfl⟩,hF1,hb1⟩
theorem EJ(p:Option Addr)(n nc:Nat)(i:Nat)(hi:n<=i)(hn:i<=1000000):
  Calls Tryz.prog 94 #[.slice p n nc,.int .i64 i] w fun r w'=>∃u:Ent,r=.returned (.agg #[.bool u.s,.slice u.p u.n u.c])/\RE w' 4 0 u/\Below w.heap.size w w':=by
 have hal:=ag (o:=.cells #[.bool false,.slice none 0 0] 65) (Jt w.heap.size w);have hX:Bx (w.alloc (.cells #[.bool false,.slice none 0 0] 65)) w.heap.size (.bool false) (.slice none 0 0):=Bx.new _ _ _ rfl;have i2:¬(i:Int)<0:=by omega
 have i3:(n:Int)<=(i:Int):=by omega
 go_enter Tryz.func94,Tryz.ntmps94;go_upto_region 1 with fail
 generalize w.alloc (.cells #[.bool false,.slice none 0 0] 65)=W at *
 go_wp2_with fail;refine(FD 0 _ (by decide) (by decide)).mono ?_
 rintro e w1 ⟨u,rfl,hO,hF,hb1⟩;obtain⟨r0,r1,f0,f1⟩:=hX.later hb1;have hlt:w.heap.size<W.heap.size:=block_lt_of_cell hX.c0;have hB:=ae hal hb1;go_wp2;refine bodyPost_ret (v:=.agg #[.bool u.s,.slice u.p u.n u.c]) (by simp[results,Tryz.results94,go_sem,r0,r1]) rfl ⟨u,rfl,?_,dD hB (Jr _) _ _⟩
 exact hO.b8 (fun _ a ha=>by have:=hF a ha;omega)
variable {p:Option Addr} {n nc:Nat} {es:List Ent} {zs:List Int}
theorem nh(h:PR w N p n nc es zs)(i:Nat)(hi:i<=1000000)(hn:n<=1000000)(hN:4<=N):
  Calls Tryz.prog 94 #[.slice p n nc,.int .i64 i] w fun r w'=>∃u:Ent,r=.returned (.agg #[.bool u.s,.slice u.p u.n u.c])/\RE w' N (gx zs i) u/\Below w.heap.size w w':=by
 rcases Ju i n with hlt|hge
 ·refine(zJ h i hlt hn).mono ?_
  rintro r w1 ⟨rfl,hb⟩;exact⟨ge es i,rfl,(h.ev i hlt).below hb,hb⟩
 ·refine(EJ p n nc i hge hi).mono ?_
  rintro r w1 ⟨u,rfl,hu,hb⟩;rw[ak zs n (by rw[h.zl];exact Jr _) i hge]
  exact⟨u,rfl,hu.wide hN,hb⟩
theorem ou(op:Int->Int->Int)(zs ys:List Int):(pz op zs ys).length=max zs.length ys.length:=by simp[pz]
theorem BY(op:Int->Int->Int)(zs ys:List Int)(j:Nat)(h:j<max zs.length ys.length):gx (pz op zs ys) j=op (gx zs j) (gx ys j):=by
 rw[bZ _ _ (by rw[ou];exact h)]
 simp[pz]
variable {B k:Nat}
theorem zc{u:Ent}(hl:es.length=k)(h:∀j,j<k->0<(ge es j).n->aJ B (ge es j).p)(hu:aJ B u.p)(j:Nat)(hj:j<k+1)(h0:0<(ge (es++[u]) j).n):aJ B (ge (es++[u]) j).p:=by
 rcases Ju j k with h1|h1
 ·rw[cy _ _ _ (by omega)] at h0 ⊢
  exact h j h1 h0
 ·obtain rfl:j=es.length:=by omega
  rw[fH];exact hu
variable {q:Option Addr} {m mc:Nat} {es0 fs0:List Ent} {ys:List Int}
theorem u_(h:PR w N p n nc es0 zs)(h':PR w M q m mc fs0 ys)(hn:n<=100000)(hm:m<=100000)(hN:N<=400)(hM:M<=400)(hN4:4<=N)(hM4:4<=M):
  Calls Tryz.prog 92 #[.slice p n nc,.slice q m mc] w (PrF (tr (pz (· + ·) zs ys)) (N+M+1) w):=by
 obtain⟨i0,hi,hzz⟩:=Option.map_eq_some_iff.1 iT;simp only[Prod.mk.injEq] at hzz
 obtain⟨hz0,hz1,hz2⟩:=hzz;have HI:Hid (Tryz.prog.info? 65=some i0/\i0.zero=some (.agg #[.bool false,.slice none 0 0])/\i0.size=2/\i0.bytes=32):=⟨hi,hz0,hz1,hz2⟩;have HX:Hid (PR w N p n nc es0 zs/\PR w M q m mc fs0 ys):=⟨h,h'⟩;have hvl:=ou (· + ·) zs ys;have hvg:=BY (· + ·) zs ys;rw[h.zl,h'.zl] at hvl hvg
 generalize hvs:pz (· + ·) zs ys=vs at *
 have HVS:Hid ((∀j,j<max n m->gx vs j=gx zs j+gx ys j)/\vs.length=max n m):=⟨hvg,hvl⟩;clear h h' hi hz0 hz1 hz2 hvs hvg hvl;go_enter Tryz.func92,Tryz.ntmps92;go_wp2_with fail;go_loopw [5,6] (fun sv iv wr=>∃(k:Nat) (es:List Ent),(k<=n\/k<=m)/\iv=.int .i64 (k:Int)/\Hid (es.length=k/\LG w.heap.size 65 (fun w z e=>RE w (N+M+1) z e) wr sv es (vs.take k)/\Below w.heap.size w wr/\∀j,j<k->0<(ge es j).n->aJ w.heap.size (ge es j).p)) (fun _ iv _=>max n m-(intOf iv).toNat)
 case atStart=>exact⟨0,[],.inl (Jz _),by go_num,rfl,by rw[List.take_zero];exact LG.nil _ _ _ _,Jt _ _,fun j hj=>absurd hj (by omega)⟩
 case round=>
  obtain⟨k,es,hk,rfl,H⟩:=hrel;have hk3:k<=100000:=by omega
  by_cases hlt:k<n\/k<m
  ·have H0:=H.out.2.2.1
   obtain⟨hi,hz0,hz1,hz2⟩:=HI.out;rcases Ju k n with hkn|hkn
   ·have i1:(k:Int)<(n:Int):=by omega
    go_wp2_with fail;refine(nh (HX.out.1.below H0) k (by omega) (by omega) hN4).mono ?_
    rintro e w1 ⟨x1,rfl,hx1,hb1⟩;have hB1:=ae H0 hb1;go_wp2_with fail;refine(nh (HX.out.2.below hB1) k (by omega) (by omega) hM4).mono ?_
    rintro e w2 ⟨x2,rfl,hx2,hb2⟩;go_wp2_with fail;refine(xC (hx1.below hb2) hx2 (by omega) (by omega)).mono ?_
    rintro e w3 ⟨u,rfl,hN1,hF1',hb3⟩;have hB3:=ae (ae hb1 hb2) hb3;have hF1:aJ wr.heap.size u.p:=fun a ha=>JA (ae hb1 hb2).size (hF1' a ha)
    have HN1:Hid (RE w3 (N+M+1) (gx zs k+gx ys k) u):=hN1;have hown0:=cD H.out.2.1.own hB3;rw[H.out.1] at hown0
    have HO:Hid (w3.ownsRow w.heap.size 65 2 u5 k (fl es)):=hown0;have hsz:w.heap.size<=w3.heap.size:=JA H0.size hB3.size;clear hown0 hN1 hx1 hx2 hb1 hb2 hb3 hB1 hF1';go_wp2_with (refine wpList_append_lies _ rfl _ _ 31 rfl w.heap.size 65 i0 (.agg #[.bool false,.slice none 0 0]) 2 32 Tryz.underlying31 hi hz0 hz1 hz2 rfl (by decide) u5 k (fl es) rfl (HO.out.alloc _) ⟨w3.heap.size,0,none⟩ 1 1 [.bool u.s,.slice u.p u.n u.c] rfl rfl ?_ (fun x hx=>by simp at hx;rcases hx with rfl|rfl<;>rfl) (by decide) (by unfold maxLen;omega) (by omega) (by simp;omega) _ rfl ?_;exact World.news_of_block (heap_alloc_new w3 _);intro g cap w4 hown3 hgrow3 hat3 hlt3;have hB4:Below w.heap.size w w4:=((ae H0 hB3).alloc hsz _).grown hgrow3 (by simp;omega) (fun q hq=>(HO.out.lt q hq).1);have HA:Hid (LG w.heap.size 65 (fun w z e=>RE w (N+M+1) z e) w4 (.slice (some ⟨g,0,none⟩) (k+1) cap) (es++[u]) (vs.take k++[gx zs k+gx ys k])):=LG.app (eC _) H.out.1 H.out.2.1 hB3 HN1.out (fun h0 a ha=>.inr (hF1 a ha)) hown3 hgrow3 hat3;clear hown3 hgrow3 hat3)
    refine⟨⟨k+1,es++[u],by omega,by go_num,by have:=H.out.1;simp;omega,?_,hB4,?_⟩,by simp[intOf];omega⟩
    ·have hvl:=HVS.out.2
     rw[eU vs k (by omega),HVS.out.1 k (by omega)]
     exact HA.out
    ·exact fun j hj h0=>zc H.out.1 H.out.2.2.2 (fun a ha=>JA H0.size (hF1 a ha)) j hj h0
   ·have i1:¬(k:Int)<(n:Int):=by omega
    have i2:(k:Int)<(m:Int):=by omega
    go_wp2_with fail;refine(nh (HX.out.1.below H0) k (by omega) (by omega) hN4).mono ?_
    rintro e w1 ⟨x1,rfl,hx1,hb1⟩;have hB1:=ae H0 hb1;go_wp2_with fail;refine(nh (HX.out.2.below hB1) k (by omega) (by omega) hM4).mono ?_
    rintro e w2 ⟨x2,rfl,hx2,hb2⟩;go_wp2_with fail;refine(xC (hx1.below hb2) hx2 (by omega) (by omega)).mono ?_
    rintro e w3 ⟨u,rfl,hN1,hF1',hb3⟩;have hB3:=ae (ae hb1 hb2) hb3;have hF1:aJ wr.heap.size u.p:=fun a ha=>JA (ae hb1 hb2).size (hF1' a ha)
    have HN1:Hid (RE w3 (N+M+1) (gx zs k+gx ys k) u):=hN1;have hown0:=cD H.out.2.1.own hB3;rw[H.out.1] at hown0
    have HO:Hid (w3.ownsRow w.heap.size 65 2 u5 k (fl es)):=hown0;have hsz:w.heap.size<=w3.heap.size:=JA H0.size hB3.size;clear hown0 hN1 hx1 hx2 hb1 hb2 hb3 hB1 hF1';go_wp2_with (refine wpList_append_lies _ rfl _ _ 31 rfl w.heap.size 65 i0 (.agg #[.bool false,.slice none 0 0]) 2 32 Tryz.underlying31 hi hz0 hz1 hz2 rfl (by decide) u5 k (fl es) rfl (HO.out.alloc _) ⟨w3.heap.size,0,none⟩ 1 1 [.bool u.s,.slice u.p u.n u.c] rfl rfl ?_ (fun x hx=>by simp at hx;rcases hx with rfl|rfl<;>rfl) (by decide) (by unfold maxLen;omega) (by omega) (by simp;omega) _ rfl ?_;exact World.news_of_block (heap_alloc_new w3 _);intro g cap w4 hown3 hgrow3 hat3 hlt3;have hB4:Below w.heap.size w w4:=((ae H0 hB3).alloc hsz _).grown hgrow3 (by simp;omega) (fun q hq=>(HO.out.lt q hq).1);have HA:Hid (LG w.heap.size 65 (fun w z e=>RE w (N+M+1) z e) w4 (.slice (some ⟨g,0,none⟩) (k+1) cap) (es++[u]) (vs.take k++[gx zs k+gx ys k])):=LG.app (eC _) H.out.1 H.out.2.1 hB3 HN1.out (fun h0 a ha=>.inr (hF1 a ha)) hown3 hgrow3 hat3;clear hown3 hgrow3 hat3)
    refine⟨⟨k+1,es++[u],by omega,by go_num,by have:=H.out.1;simp;omega,?_,hB4,?_⟩,by simp[intOf];omega⟩
    ·have hvl:=HVS.out.2
     rw[eU vs k (by omega),HVS.out.1 k (by omega)]
     exact HA.out
    ·exact fun j hj h0=>zc H.out.1 H.out.2.2.2 (fun a ha=>JA H0.size (hF1 a ha)) j hj h0
  ·obtain⟨hel,hLR,hB,hfr⟩:=H.out
   have hvl:=HVS.out.2;rw[Jv (by omega)] at hLR
   obtain⟨r,cap,hv,hPR,hF⟩:=hLR.pr;subst hv;rw[hel] at hPR ⊢
   have HB:Hid (Below w.heap.size w wr):=hB;have HF:Hid (∀j,j<k->0<(ge es j).n->aJ w.heap.size (ge es j).p):=hfr;have i1:¬(k:Int)<(n:Int):=by omega
   have i2:¬(k:Int)<(m:Int):=by omega
   clear H hLR hB hk hvl hfr;go_wp2_with fail;refine(gS (N+M+1) r k cap es vs _ hPR (by omega)).mono ?_
   rintro e w1 ⟨rfl,hb1⟩;have HP:Hid (PR wr (N+M+1) r k cap es vs):=hPR;clear hPR;go_wp2;go_ret;have htl:=aj vs;have hcap:=HP.out.cap;have hvk:=HP.out.zl;have hT:=(HP.out.below hb1).take (ad vs) (ad vs) (by omega) (Jr _) (by omega)
   refine⟨r,ad vs,es.take (ad vs),rfl,hT,hF,aM vs,fun j hj h0=>?_,ae HB.out hb1⟩
   rw[e_ _ _ _ hj] at h0 ⊢
   exact HF.out j (by omega) h0
theorem uZ(h:PR w N p n nc es0 zs)(h':PR w M q m mc fs0 ys)(hn:n<=100000)(hm:m<=100000)(hN:N<=400)(hM:M<=400)(hN4:4<=N)(hM4:4<=M):
  Calls Tryz.prog 92 #[.slice p n nc,.slice q m mc] w (PrP (tr (pz (· + ·) zs ys)) (N+M+1) w):=
 (u_ h h' hn hm hN hM hN4 hM4).mono fun _ _ h=>h.any
variable {a b:List Int}
theorem k_(h:∀j,gx a j=gx b j):ad a=ad b:=by
 refine aX _ _ (fun j hj=>by rw[h];exact az b j hj) ?_
 rcases Jw (ad b) with h0|h0
 ·exact .inl h0
 ·exact .inr (by rw[h];exact aw b h0)
theorem G7(h:∀j,gx a j=gx b j):tr a=tr b:=by
 refine dm _ _ (by rw[af,af,k_ h]) fun j hj=>?_
 rw[aN,aN,h]
theorem dS(op:Int->Int->Int)(h0:op 0 0=0)(zs ys:List Int)(j:Nat):gx (pz op zs ys) j=op (gx zs j) (gx ys j):=by
 rcases Ju j (max zs.length ys.length) with h|h
 ·exact BY op zs ys j h
 ·rw[ak _ (max zs.length ys.length) (by rw[ou];exact Jr _) j h,ak zs zs.length (Jr _) j (by omega),ak ys ys.length (Jr _) j (by omega),h0]
theorem II(zs ys:List Int):tr (pz (· + ·) zs (tr (ys.map (-1 * ·))))=tr (pz (· - ·) zs ys):=by
 refine G7 fun j=>?_
 rw[dS _ rfl,dS _ rfl,aN,cE (-1 * ·) rfl];omega
theorem Jj(a:Int)(w:World)(h0:-9223372036854775808<=a)(h1:a<=9223372036854775807):
  Calls Tryz.prog 48 #[.int .i64 a] w fun r w'=>∃u:Ent,r=.returned (.agg #[.bool u.s,.slice u.p u.n u.c])/\RE w' 4 a u/\aJ w.heap.size u.p/\Below w.heap.size w w':=by
 refine(pN a w h0 h1).mono ?_;rintro e w1 ⟨s1,p1,n1,d1,rfl,hR1,hv1,hn1,hF1,hb1⟩;exact⟨⟨s1,p1,n1,n1⟩,rfl,⟨⟨d1,hR1,hv1,hn1⟩,rfl⟩,hF1,hb1⟩
def zb(z:Int):Nat:=if z=0 then 0 else z.natAbs.log2+1
theorem lC(z:Int):IB (zb z) (z.natAbs:Int):=by
 unfold zb;split
 ·rename_i h;subst h;exact⟨by decide,by decide,.inl rfl⟩
 ·rename_i h
  have h0:z.natAbs≠0:=by omega
  refine⟨by omega,?_,.inr ?_⟩
  ·have:=Nat.lt_log2_self (n:=z.natAbs)
   exact_mod_cast this
  ·have:=Nat.log2_self_le h0
   simp only[JD];exact_mod_cast this
variable {s:Bool} {xs:List Int}
theorem rC(hU:U32 xs):iC xs=(zb (aq s xs):Int):=by
 obtain⟨b,hb,hI⟩:=Eh hU;have e:((aq s xs).natAbs:Int)=val xs:=by
  have:=ar hU;rw[aq];split<;>omega
 have hz:=lC (aq s xs);rw[e] at hz
 rw[hb,hI.uniq hz]
variable {K:Nat}
theorem tj(h:EV w K z e):Calls Tryz.prog 51 #[.agg #[.bool e.s,.slice e.p e.n e.c]] w fun r w'=>r=.returned (.int .i64 (zb z))/\Below w.heap.size w w':=by
 obtain⟨xs,h1,rfl,h3⟩:=h;rw[<-rC (s:=e.s) h1.u];exact vO e.s e.p e.n e.c xs w h1
def pb(zs:List Int):Nat:=zs.foldl (fun m z=>max m (zb z)) 0
theorem uc(zs:List Int)(j:Nat)(h:j<zs.length):pb (zs.take (j+1))=max (pb (zs.take j)) (zb (gx zs j)):=by
 rw[bZ zs j h,List.take_succ_eq_append_getElem h,pb,List.foldl_append];rfl
theorem FM(h:EV w K z e):zb z<=32*K:=by
 obtain⟨xs,h1,rfl,h3⟩:=h;obtain⟨q1,q2,q3⟩:=ox h1.u;rw[rC (s:=e.s) h1.u] at q3
 have:=aj xs;have:=h1.len;omega
theorem sr(h:EV w K z e):Calls Tryz.prog 141 #[.agg #[.bool e.s,.slice e.p e.n e.c]] w fun r w'=>r=.returned (.bool (decide (z=0)))/\Below w.heap.size w w':=by
 have hd:Hid ((bf z==0)=decide (z=0)):=by
  show(bf z==0)=decide (z=0)
  unfold bf;split
  ·rename_i h;rw[decide_eq_true h];rfl
  ·rename_i h;rw[decide_eq_false h];split<;>rfl
 go_enter Tryz.func141,Tryz.ntmps141;go_wp2_with fail;have hW:Below w.heap.size w (w.alloc (.cells #[.bool e.s,.slice e.p e.n e.c] 50)):=(Jt _ _).alloc (Jr _) _;generalize w.alloc (.cells #[.bool e.s,.slice e.p e.n e.c] 50)=W at *
 refine(tp (h.below hW)).mono ?_;rintro r w1 ⟨rfl,hb1⟩;go_wp2;go_ret;exact⟨by rw[hd.out];rfl,ae hW hb1⟩
theorem C7(h:PA w K p n nc es zs)(hn:n<=1000000)(hK:K<=1000):
  Calls Tryz.prog 59 #[.slice p n nc] w fun r w'=>r=.returned (.int .i64 (pb zs))/\pb zs<=32*K/\Below w.heap.size w w':=by
 have hel:=h.el;have hzl:=h.zl;go_enter Tryz.func59,Tryz.ntmps59;go_wp2_with fail;go_loopw [3,5,8] (fun mv cv kv wr=>∃j:Nat,j<=n/\kv=.int .i64 j/\mv=.int .i64 (pb (zs.take j))/\Hid (pb (zs.take j)<=32*K/\Below w.heap.size w wr)) (fun _ _ kv _=>n-(intOf kv).toNat)
 case atStart=>exact⟨0,Jz _,by go_num,by simp[pb],by simp[pb],Jt _ _⟩
 case round=>
  obtain⟨j,hj,rfl,rfl,H⟩:=hrel;rcases Ju j n with hlt|hge
  ·have hh:=h.below H.out.2
   have hv:=hh.ev j hlt;obtain⟨b,o,hp,hc⟩:=hh.pl (by omega)
   subst hp;obtain⟨c0,c1⟩:=hc j (by omega)
   have hz:=FM hv;have HT:Hid (pb (zs.take (j+1))=max (pb (zs.take j)) (zb (gx zs j))):=uc zs j (by omega)
   clear hc hh;go_wp2_with fail;have hal:=ag (o:=.cells #[.bool (ge es j).s,.slice (ge es j).p (ge es j).n (ge es j).c] 50) (Jt wr.heap.size wr);refine(tj (hv.below hal)).mono ?_;rintro e w1 ⟨rfl,hb1⟩;have hB:=ae H.out.2 (ae hal hb1);have hmx:max (pb (zs.take j):Int) (zb (gx zs j):Int)=((pb (zs.take (j+1)):Nat):Int):=by rw[HT.out];omega
   clear c0 c1 hv hal hb1;go_wp2;go_roundw
   case rel=>exact⟨j+1,by omega,by go_num,rfl,by rw[HT.out];have:=H.out.1;omega,hB⟩
   case measure=>simp[intOf];omega
  ·obtain rfl:j=n:=by omega
   have HT:Hid (zs.take j=zs):=Jv (by omega)
   clear hge;go_wp2;go_ret;obtain⟨h1,h2⟩:=H.out;rw[HT.out] at h1
   exact⟨by rw[HT.out];rfl,h1,h2⟩
def zl(z:Int):Nat:=(zb z+31)/32
def cnt(zs:List Int):Nat:=zs.foldl (fun m z=>if z=0 then m else m+1) 0
def sl(zs:List Int):Nat:=zs.foldl (fun m z=>m+zl z) 0
theorem EN.zl(h:EN w K z e):e.n=zl z/\zl z<=K:=by
 obtain⟨xs,h1,rfl,h3,h4,h5⟩:=h;obtain⟨q1,q2,q3⟩:=ox h1.u;rw[rC (s:=e.s) h1.u] at q1
 have:Go.Proofs.YtdjjlghlcffflaaGreatDoor.zl (aq e.s xs)=e.n:=by unfold Go.Proofs.YtdjjlghlcffflaaGreatDoor.zl;omega
 exact⟨this.symm,by omega⟩
open Go.Shelf
def IU:Go.Shelf.Ren:=⟨fun|125=>181|128=>103|129=>204|n=>n,fun|3=>3|4=>4|5=>5|9=>9|46=>158|51=>97|53=>128|n=>n,fun n=>n⟩
theorem Gl:Lays.n125 Tryz.prog IU:=
 {mixed:=by kernel_rfl
  f125:=by kernel_rfl
  f128:=by kernel_rfl
  f129:=by kernel_rfl
  t3:=by kernel_rfl
  a3:=fun _=>by kernel_rfl
  z3:=fun _=>by kernel_rfl
  v3:=fun _=>by kernel_rfl
  t4:=by kernel_rfl
  a4:=fun _=>by kernel_rfl
  z4:=fun _=>by kernel_rfl
  v4:=fun _=>by kernel_rfl
  t5:=by kernel_rfl
  a5:=fun _=>by kernel_rfl
  z5:=fun _=>by kernel_rfl
  v5:=fun _=>by kernel_rfl
  t9:=by kernel_rfl
  a9:=fun _=>by kernel_rfl
  z9:=fun _=>by kernel_rfl
  v9:=fun _=>by kernel_rfl
  t46:=by kernel_rfl
  a46:=fun _=>by kernel_rfl
  z46:=fun _=>by kernel_rfl
  v46:=fun _=>by kernel_rfl
  t51:=by kernel_rfl
  a51:=fun _=>by kernel_rfl
  z51:=fun _=>by kernel_rfl
  v51:=fun _=>by kernel_rfl
  t53:=by kernel_rfl
  a53:=fun _=>by kernel_rfl
  z53:=fun _=>by kernel_rfl
  v53:=fun _=>by kernel_rfl}
theorem FR(x:Int)(w:World)(h0:0<=x)(h1:x<=18446744073709551615):
  Calls Tryz.prog 181 #[.int .u64 x] w fun e w'=>e=.returned (.int .i64 (Lib.bitLen x.toNat))/\w'=w:=Any.bits_Len Gl x w h0 h1
def wd(zs ys:List Int):Nat:=(pb zs+pb ys+Lib.bitLen (min zs.length ys.length))/32+1
theorem bitLen_le(x:Nat):Lib.bitLen x<=64:=bitLenAux_le 64 x
theorem kr(g o cap:Nat)(Z:List Int)(p q:Option Addr)(n nc m mc:Nat)(xs ys:List Int)(w:World)
  (hz:o+(n+m)<=Z.length) (hcap:cap<=1099511627776) (hn:n+m<=cap) (hR:Row w g 97 .u32 Z) (hZ:(Z.drop o).take (n+m)=au (n+m)) (hx:xs.length=n) (hy:ys.length=m)
  (hX:Rd w p .u32 xs) (hXu:U32 xs) (hY:Rd w q .u32 ys) (hYu:U32 ys) (hoffx:0<n->Off g p) (hoffy:0<m->Off g q):
  Calls Tryz.prog 208 #[.slice (some ⟨g,o,none⟩) (n+m) cap,.slice p n nc,.slice q m mc] w fun e w'=>∃R,e=.returned (.tuple #[])/\R.length=n+m/\U32 R/\val R=val xs*val ys/\Row w' g 97 .u32 (mid Z o R)/\w.grownBy w' (some g):=by
 go_enter Tryz.func208,Tryz.ntmps208;go_wp2;go_loopw [15] (fun iv wr=>∃(i:Nat) (R:List Int),i<=m/\iv=.int .i64 i/\Hid (R.length=n+m/\U32 R/\val R=val xs*val (ys.take i)/\(∀j,n+i<=j->gx R j=0)/\Row wr g 97 .u32 (mid Z o R)/\w.grownBy wr (some g)))
  (fun iv _=>m-(intOf iv).toNat)
 case atStart=>exact⟨0,au (n+m),Jz _,rfl,aZ _,eR _,by simp[val_zero,val],fun j _=>dT _ j,by rw[<-hZ,kq Z o (n+m) hz];exact hR,ck _ _⟩
 case round=>
  obtain⟨i,R,hi,rfl,H⟩:=hrel;by_cases hlt:i<m
  ·obtain⟨hl,hu,hv,h0,hr,hg⟩:=H.out
   obtain⟨b,off,rfl,hcell⟩:=(hY.dw hg (hoffy (by omega))) (by omega)
   have hcy:=hcell i (by omega)
   clear hl hu hv h0 hr hg hcell;go_wp2;go_loopw [8,29] (fun cv jv wr'=>∃(j:Nat) (c:Int) (T:List Int),j<=n/\jv=.int .i64 j/\cv=.int .u64 c/\0<=c/\c<4294967296/\Hid (T.length=n+m/\U32 T/\val T+pw (i+j)*c=val R+pw i*(gx ys i*val (xs.take j))/\(∀j,n+i<=j->gx T j=0)/\Row wr' g 97 .u32 (mid Z o T)/\w.grownBy wr' (some g)))
    (fun _ jv _=>n-(intOf jv).toNat)
   case atStart=>
    obtain⟨hl,hu,hv,h0,hr,hg⟩:=H.out;exact⟨0,0,R,Jz _,rfl,rfl,by decide,by decide,hl,hu,by simp[val],h0,hr,hg⟩
   case round=>
    obtain⟨j,c,T,hj,rfl,rfl,hc0,hc1,HT⟩:=hrel;by_cases hjn:j<n
    ·obtain⟨hl,hu,hv,h0,hr,hg⟩:=HT.out
     obtain⟨b',off',rfl,hcell⟩:=(hX.dw hg (hoffx (by omega))) (by omega)
     have hcx:=hcell j (by omega)
     have hct:=hr.gC (by omega) (i+j) (by omega)
     have hfz:=hr.frozen (o+(i+j));obtain⟨bt0,bt1⟩:=hu (i+j);obtain⟨bm0,bm1⟩:=wW (hYu i) (hXu j);obtain⟨by0,by1⟩:=hYu i;obtain⟨bx0,bx1⟩:=hXu j;rw[<-Nat.add_assoc] at hct hfz
     clear hl hu hv h0 hr hg hcell;go_wp2;obtain⟨hl,hu,hv,h0,hr,hg⟩:=HT.out;refine⟨⟨j+1,_,T.set (i+j) ((gx ys i*gx xs j+gx T (i+j)+c)%4294967296),by omega,by go_num,rfl,by omega,by omega,?_⟩,by simp[intOf];omega⟩
     refine⟨by rw[List.length_set];exact hl,dy hu _ (by omega),?_,fun k hk=>?_,?_,?_⟩
     ·rw[h_ T _ _ (by omega),aD xs j (by omega),<-Nat.add_assoc,bE]
      have e:=iL (pw (i+j)) (gx ys i*gx xs j+gx T (i+j)+c);have e2:pw i*(gx ys i*(val (List.take j xs)+pw j*gx xs j))=pw i*(gx ys i*val (List.take j xs))+pw (i+j)*(gx ys i*gx xs j):=by
       rw[fA,JF,JF];congr 1;simp only[JG,JH]
      rw[e2];simp only[JF,Int.mul_sub] at e ⊢
      omega
     ·rw[cl T _ _ _ (by omega)];exact h0 k hk
     ·rw[Nat.add_assoc];exact hr.eP (by omega) (i+j) (by omega) _
     ·exact aL hg _ _
    ·have hjn':j=n:=by omega
     subst hjn';obtain⟨hl,hu,hv,h0,hr,hg⟩:=HT.out;have hct:=hr.gC (by omega) (i+j) (by omega)
     have hfz:=hr.frozen (o+(i+j));clear hl hu hv h0 hr hg;go_wp2;obtain⟨hl,hu,hv,h0,hr,hg⟩:=HT.out;obtain⟨rl,ru,rv,r0,rr,rg⟩:=H.out;refine⟨⟨i+1,T.set (i+j) c,by omega,by go_num,?_⟩,by simp[intOf];omega⟩
     refine⟨by rw[List.length_set];exact hl,dy hu _ ⟨hc0,hc1⟩,?_,fun k hk=>?_,hr.eP (by omega) (i+j) (by omega) _,aL hg _ _⟩
     ·rw[h_ T _ _ (by omega),h0 (i+j) (by omega),Int.sub_zero,hv,rv,Jv (l:=xs) (by omega),aD ys i (by omega)]
      rw[JF];congr 1;simp only[JG,JH,JI]
     ·rw[cl T _ _ _ (by omega)];exact h0 k (by omega)
  ·have him:i=m:=by omega
   subst him;go_wp2;go_end0;obtain⟨hl,hu,hv,h0,hr,hg⟩:=H.out;rw[Jv (by omega)] at hv
   exact⟨R,rfl,hl,hu,hv,hr,hg⟩
end Go.Proofs.YtdjjlghlcffflaaGreatDoor
