/- Own. -/
import Derived.Test.YtdjjlghlcffflaaGreatDoorVq
set_option linter.unusedVariables false
set_option linter.unusedSimpArgs false
set_option maxHeartbeats 8000000
set_option maxRecDepth 100000
namespace Go.Proofs.YtdjjlghlcffflaaGreatDoor
open Go.RowKit
variable {w:World} {N n nc:Nat} {p:Option Addr} {es:List Ent} {zs:List Int}
theorem va(h:PR w N p n nc es zs)(hn1:1<=n)(hn:n<=1000000):
  Calls Tryz.prog 45 #[.slice p n nc] w fun r w'=>r=.returned (.agg #[.bool (ge es (n-1)).s,.slice (ge es (n-1)).p (ge es (n-1)).n (ge es (n-1)).c])/\Below w.heap.size w w':=by
 obtain⟨i,hi⟩:∃i,i=n-1:=⟨_,rfl⟩;rw[<-hi];have hal:=ag (o:=.cells #[.bool false,.slice none 0 0] 65) (Jt w.heap.size w);have hX:Bx (w.alloc (.cells #[.bool false,.slice none 0 0] 65)) w.heap.size (.bool false) (.slice none 0 0):=Bx.new _ _ _ rfl;have ha:=zJ (h.below hal) i (by omega) hn
 have i1:(n:Int)-1=(i:Int):=by omega
 have i2:IntKind.i64.wrap (i:Int)=(i:Int):=by rw[IntKind.wrap_i64];omega
 clear h hi;go_enter Tryz.func45,Tryz.ntmps45;go_upto_region 1 with fail
 generalize w.alloc (.cells #[.bool false,.slice none 0 0] 65)=W at *
 go_wp2_with fail;refine ha.mono ?_;rintro r w1 ⟨rfl,hb1⟩;obtain⟨r0,r1,f0,f1⟩:=hX.later hb1;clear ha hX;go_wp2;refine bodyPost_ret (v:=.agg #[.bool (ge es i).s,.slice (ge es i).p (ge es i).n (ge es i).c]) (by simp[results,Tryz.results45,go_sem,r0,r1]) rfl ⟨rfl,?_⟩
 exact dD (ae hal hb1) (Jr _) _ _
variable {M:Nat} {es0:List Ent} {y:Int} {f:Ent}
theorem fe(h:PR w N p n nc es0 zs)(hf:RE w M y f)(hn:n<=100000)(hN:N<=400)(hM:M<=400):
  Calls Tryz.prog 89 #[.slice p n nc,.agg #[.bool f.s,.slice f.p f.n f.c]] w (PrP (tr (zs.map (y * ·))) (M+N+1) w):=by
 obtain⟨i0,hi,hzz⟩:=Option.map_eq_some_iff.1 iT;simp only[Prod.mk.injEq] at hzz
 obtain⟨hz0,hz1,hz2⟩:=hzz;have HI:Hid (Tryz.prog.info? 65=some i0/\i0.zero=some (.agg #[.bool false,.slice none 0 0])/\i0.size=2/\i0.bytes=32):=⟨hi,hz0,hz1,hz2⟩;have HX:Hid (PR w N p n nc es0 zs/\RE w M y f):=⟨h,hf⟩;have hel0:=h.el;have hzl0:=h.zl;have hvl:(zs.map (y * ·)).length=n:=by simp[hzl0]
 have hvg:∀j,gx (zs.map (y * ·)) j=y*gx zs j:=fun j=>cE (y * ·) (by simp) zs j
 generalize hvs:zs.map (y * ·)=vs at *
 have HVS:Hid ((∀j,gx vs j=y*gx zs j)/\vs.length=n):=⟨hvg,hvl⟩;clear h hf hi hz0 hz1 hz2 hvs hvg hvl;go_enter Tryz.func89,Tryz.ntmps89;go_wp2_with fail;have hal0:=ag (o:=.cells #[.bool f.s,.slice f.p f.n f.c] 65) (Jt w.heap.size w);have hX0:Bx (w.alloc (.cells #[.bool f.s,.slice f.p f.n f.c] 65)) w.heap.size (.bool f.s) (.slice f.p f.n f.c):=Bx.new _ _ _ rfl;have HS0:Hid (Bx (w.alloc (.cells #[.bool f.s,.slice f.p f.n f.c] 65)) w.heap.size (.bool f.s) (.slice f.p f.n f.c)/\Below w.heap.size w (w.alloc (.cells #[.bool f.s,.slice f.p f.n f.c] 65))):=⟨hX0,hal0⟩;generalize w.alloc (.cells #[.bool f.s,.slice f.p f.n f.c] 65)=W0 at *
 clear hal0 hX0;go_loopw [5,6] (fun sv iv wr=>∃(k:Nat) (es:List Ent),k<=n/\iv=.int .i64 k/\Hid (es.length=k/\LG (w.heap.size+1) 65 (fun w z e=>RE w (M+N+1) z e) wr sv es (vs.take k)/\Bx wr w.heap.size (.bool f.s) (.slice f.p f.n f.c)/\Below w.heap.size w wr)) (fun _ iv _=>n-(intOf iv).toNat)
 case atStart=>exact⟨0,[],Jz _,by go_num,rfl,by rw[List.take_zero];exact LG.nil _ _ _ _,HS0.out.1,HS0.out.2⟩
 case round=>
  obtain⟨k,es,hk,rfl,H⟩:=hrel;rcases Ju k n with hlt|hge
  ·obtain⟨hel,hLR,hbx,hB⟩:=H.out
   have hPR:=HX.out.1.below hB;obtain⟨b,o,hp,hc⟩:=hPR.pl (by omega)
   subst hp;obtain⟨x0,x1⟩:=hc k (by omega)
   obtain⟨d0,d1,-,-⟩:=id hbx;have HC:Hid (w.cell? ⟨b,o+k*2,none⟩=some (.bool (ge es0 k).s)/\w.cell? ⟨b,o+k*2+1,none⟩=some (.slice (ge es0 k).p (ge es0 k).n (ge es0 k).c)):=by
    obtain⟨b',o',hb',hc'⟩:=HX.out.1.pl (by omega)
    cases hb'
    exact hc' k (by omega)
   have hx:=hPR.ev k hlt;have hy:=HX.out.2.below hB;have i1:(k:Int)<(n:Int):=by omega
   have hw1:w.heap.size+1<=wr.heap.size:=block_lt_of_cell d0;have hdr:Below wr.heap.size wr wr.drew:=(Jt _ _).drew;have hmu:=CK (hy.below hdr) (hx.below hdr) (by omega) (by omega)
   obtain⟨hi,hz0,hz1,hz2⟩:=HI.out;clear hel hLR hB hc hPR hbx;go_upto_region 5 with fail
   go_region_held3 (fun w'=>w'.cell? ⟨b,o+k*2,none⟩=some (.bool (ge es0 k).s)/\w'.cell? ⟨b,o+k*2+1,none⟩=some (.slice (ge es0 k).p (ge es0 k).n (ge es0 k).c)/\w'.cell? ⟨w.heap.size,0,none⟩=some (.bool f.s)/\w'.cell? ⟨w.heap.size,1,none⟩=some (.slice f.p f.n f.c)) (first|with_reducible exact⟨x0,x1,d0,d1⟩|with_reducible exact K3|(refine B9 ⟨x0,x1,d0,d1⟩ ?_;(repeat (first|(with_reducible exact hB1)|(with_reducible exact Jt _ _)|(refine jr ?_ (Jr _))|(refine Below.drew ?_)));done))
    (first
     |(go_at_call 65;go_fit hmu;rintro r w1 ⟨u,rfl,hN1,hF1',hb1⟩;have hF1:=unFr hF1';clear hF1';have hB1:=aQ hb1;have hown0:=cD H.out.2.1.own hB1;rw[H.out.1] at hown0;have HO:Hid (w1.ownsRow (w.heap.size+1) 65 2 u5 k (fl es)):=hown0;clear hown0;have hsz:w.heap.size+1<=w1.heap.size:=JA hw1 hB1.size)
     |(refine step_append_lies _ rfl _ _ 31 rfl (w.heap.size+1) 65 i0 (.agg #[.bool false,.slice none 0 0]) 2 32 Tryz.underlying31 hi hz0 hz1 hz2 rfl (by decide) u5 k (fl es) rfl (HO.out.alloc _) ⟨w1.heap.size,0,none⟩ 1 1 [.bool u.s,.slice u.p u.n u.c] rfl rfl ?_ (fun x hx=>by simp at hx;rcases hx with rfl|rfl<;>rfl) (by decide) (by unfold maxLen;omega) (by omega) (by simp;omega) _ rfl ?_;exact World.news_of_block (heap_alloc_new w1 _);intro g cap w3 hown3 hgrow3 hat3 hlt3;have hB3:Below w.heap.size w w3:=((ae H.out.2.2.2 hB1).alloc (by omega) _).grown hgrow3 (by simp;omega) (fun q hq=>by have:=(HO.out.lt q hq).1;omega);have hX3:Bx w3 w.heap.size (.bool f.s) (.slice f.p f.n f.c):=Bx.kept ((H.out.2.2.1.later hB1).alloc _) hgrow3 (fun hq=>by have:=(HO.out.lt _ hq.symm).1;omega);have K3:=And.intro (cell_later hB3 HC.out.1) (And.intro (cell_later hB3 HC.out.2) (And.intro hX3.c0 hX3.c1));have HA:Hid (LG (w.heap.size+1) 65 (fun w z e=>RE w (M+N+1) z e) w3 (.slice (some ⟨g,0,none⟩) (k+1) cap) (es++[u]) (vs.take k++[y*gx zs k])):=LG.app (eC _) H.out.1 H.out.2.1 hB1 hN1 (fun h0 a ha=>.inr (hF1 a ha)) hown3 hgrow3 hat3;clear hown3 hgrow3 hat3))
   all_goals
    clear hmu hx hy hN1 x0 x1 d0 d1;go_wp2;refine⟨⟨k+1,es++[u],by omega,by go_num,by have:=H.out.1;simp;omega,?_,hX3,hB3⟩,by simp[intOf];omega⟩
    rw[eU vs k (by have:=HVS.out.2;omega),HVS.out.1 k]
    exact HA.out
  ·obtain rfl:k=n:=by omega
   obtain⟨hel,hLR,hbx,hB⟩:=H.out;have hvl:=HVS.out.2;rw[Jv (by omega)] at hLR
   obtain⟨q,cap,hv,hPR,hF⟩:=hLR.pr;subst hv;rw[hel] at hPR ⊢
   have HB:Hid (Below w.heap.size w wr):=hB;clear H hLR hB hge hk hbx;go_wp2_with fail;refine(gS (M+N+1) q k cap es vs _ hPR (by omega)).mono ?_
   rintro e w1 ⟨rfl,hb1⟩;have HP:Hid (PR wr (M+N+1) q k cap es vs):=hPR;clear hPR;go_wp2;go_ret;have htl:=aj vs;have hcap:=HP.out.cap;have hT:=(HP.out.below hb1).take (ad vs) (ad vs) (by omega) (Jr _) (by omega)
   exact⟨q,ad vs,es.take (ad vs),rfl,hT,fun a ha=>Nat.le_of_succ_le (hF a ha),aM vs,ae HB.out hb1⟩
variable {q:Option Addr} {m mc:Nat} {fs0:List Ent} {ys:List Int}
theorem vg(h:PR w N p n nc es0 zs)(h':PR w M q m mc fs0 ys)(hn:n<=100000)(hm:m<=100000)(hN:N<=390)(hM:M<=390)(hN4:4<=N):
  Calls Tryz.prog 93 #[.slice p n nc,.slice q m mc] w (PrP (tr (pz (· - ·) zs ys)) (N+M+6) w):=by
 have HT:=(show Hid (tr (pz (· + ·) zs (tr (ys.map (-1 * ·))))=tr (pz (· - ·) zs ys)) from II zs ys)
 have hyl:=h'.zl;go_enter Tryz.func93,Tryz.ntmps93;go_wp2_with fail;refine(Jj (-1) _ (by decide) (by decide)).mono ?_
 rintro e w1 ⟨u,rfl,hu,hF,hb1⟩;go_wp2_with fail;refine(fe (h'.below hb1) hu hm (by omega) (by decide)).mono ?_
 rintro e w2 ⟨p2,n2,es2,rfl,h2,hF2,hn2,hb2⟩;have hn2':n2<=100000:=by
  have h3:=h2.zl;rw[af] at h3
  have h4:=aj (ys.map (-1 * ·));rw[List.length_map] at h4
  omega
 go_wp2_with fail;refine(uZ (h.below (ae hb1 hb2)) h2 hn hn2' (by omega) (by omega) hN4 (by omega)).mono ?_
 rintro e w3 ⟨p3,n3,es3,rfl,h3,hF3,hn3,hb3⟩;have HP:Hid (PR w3 (N+M+6) p3 n3 n3 es3 (tr (pz (· - ·) zs ys))/\ad (tr (pz (· - ·) zs ys))=n3):=by
  rw[HT.out] at h3 hn3
  exact⟨⟨h3.el,h3.zl,h3.cap,h3.bnd,h3.pl,fun j hj=>(h3.ev j hj).wide (by omega)⟩,hn3⟩
 have hs:=(ae hb1 hb2).size;have hB:=ae (ae hb1 hb2) hb3;clear h3 hn3 h2 hu h h';go_wp2;go_ret;exact⟨p3,n3,es3,rfl,HP.out.1,fun a ha=>JA hs (hF3 a ha),HP.out.2,hB⟩
def oZ(s:Bool)(xs:List Int)(w:World)(e:Ending)(w':World):Prop:=
 ∃p' n' nc',e=.returned (.agg #[.bool s,.slice p' n' nc'])/\AI w' p' n' nc' (xs.take 24)/\n'<=24/\aJ w.heap.size p'/\Below w.heap.size w w'
theorem Dh(s:Bool)(b off n nc k:Nat)(xs:List Int)(w:World)(hl:xs.length=n)(hnc:n<=nc)(hb:nc<=maxLen)(hX:Rd w (some ⟨b,off,none⟩) .u32 xs)(hU:U32 xs)(hk:k=min n 24)(hk0:0<k):
  Calls Tryz.prog 31 #[.agg #[.bool s,.slice (some ⟨b,off,none⟩) n nc]] w (oZ s xs w):=by
 have hb':=hb;unfold maxLen at hb'
 obtain⟨i0,hi,hzz⟩:=Option.map_eq_some_iff.1 mS;simp only[Prod.mk.injEq] at hzz
 obtain⟨hz0,hz1,hz2⟩:=hzz;have HI:Hid (Tryz.prog.info? 97=some i0/\i0.zero=some (.int .u32 0)/\i0.size=1/\i0.bytes=4):=⟨hi,hz0,hz1,hz2⟩;clear hi hz0 hz1 hz2;have HX:Hid (k=min n 24):=hk;clear hk;by_cases hn:24<n
 ·have hn':24<(n:Int):=by omega
  have h24:(24:Int)<=(nc:Int):=by omega
  have h24n:24<=nc:=by omega
  have h24m:(24:Int)<=(n:Int):=by omega
  obtain rfl:k=24:=by have:=HX.out;omega
  go_enter Tryz.func31,Tryz.ntmps31;go_wp2;have hb1:Bx ((w.alloc (.cells #[.bool s,.slice (some ⟨b,off,none⟩) n nc] 50)).alloc (.cells #[.bool false,.slice none 0 0] 50)) w.heap.size (.bool s) (.slice (some ⟨b,off,none⟩) n nc):=(Bx.new _ _ _ rfl).alloc _;have hb2:Bx ((w.alloc (.cells #[.bool s,.slice (some ⟨b,off,none⟩) n nc] 50)).alloc (.cells #[.bool false,.slice none 0 0] 50)) (w.heap.size+1) (.bool false) (.slice none 0 0):=Bx.new _ _ _ (Js ..).symm;have hbw:Below w.heap.size w ((w.alloc (.cells #[.bool s,.slice (some ⟨b,off,none⟩) n nc] 50)).alloc (.cells #[.bool false,.slice none 0 0] 50)):=((Jt _ _).alloc (Jr _) _).alloc (by simp) _
  have hsz:((w.alloc (.cells #[.bool s,.slice (some ⟨b,off,none⟩) n nc] 50)).alloc (.cells #[.bool false,.slice none 0 0] 50)).heap.size=w.heap.size+1+1:=by simp
  generalize ((w.alloc (.cells #[.bool s,.slice (some ⟨b,off,none⟩) n nc] 50)).alloc (.cells #[.bool false,.slice none 0 0] 50))=W at *
  have HS:Hid (W.heap.size=w.heap.size+1+1):=hsz;clear hsz;have k0:=hb1.c0;have k1:=hb1.c1;obtain⟨hi,hz0,hz1,hz2⟩:=HI.out;have hsrc:∀j v,((xs.take 24).map (Value.int .u32))[j]?=some v->W.drew.cell? ((⟨b,off,none⟩:Addr).add j)=some v:=by
   obtain⟨b',off',hp,hc⟩:=((hX.below hbw).take 24).drew (by simp;omega)
   cases hp
   exact Rd.src hc
  go_region_held3 (fun w'=>w'.cell? ⟨w.heap.size,0,none⟩=some (.bool s)/\w'.cell? ⟨w.heap.size,1,none⟩=some (.slice (some ⟨b,off,none⟩) n nc)) (first|(simp[go_sem, *];done)|exact fW (by assumption) (by assumption))
   (first
    |(refine step_append_lies _ rfl _ _ 48 rfl w.heap.size 97 i0 (.int .u32 0) 1 4 Tryz.underlying48 hi hz0 hz1 hz2 rfl (by decide) (.slice none 0 0) 0 [] rfl (World.ownsRow_nil _ _ _ _) ⟨b,off,none⟩ 24 nc ((xs.take 24).map (Value.int .u32)) rfl (by simp;omega) ?_ (mZ _ _) (by decide) (by unfold maxLen;decide) (by decide) hbw.size _ rfl ?_;exact hsrc;intro g cap w3 hown3 hgrow3 hat3 hlt3;have hb3:=lL (w:=W.drew) hgrow3;obtain⟨c0,c1,f0,f1⟩:=cj (aQ hb3) hb2.c0 hb2.c1 hb2.f0 hb2.f1))
  go_wp2;obtain rfl:g=W.heap.size:=by rcases hat3 with h|h;cases h;exact h
  have hr3:Rd w3 (some ⟨W.heap.size,0,none⟩) .u32 (xs.take 24):=gT (by simpa using hown3)
  have hs3:=HS.out;have hcp:24<=cap/\cap<=maxLen:=by
   rcases hown3.2 with ⟨h,_⟩|⟨g',cap',cur,h,_,_,h4,h5,_⟩
   ·cases h
   ·cases h;exact⟨by omega,h5⟩
  refine bodyPost_ret (v:=.agg #[.bool s,.slice (some ⟨W.heap.size,0,none⟩) 24 cap]) (by simp[results,Tryz.results31,go_sem,c0,c1]) rfl ?_
  refine⟨_,24,cap,rfl,⟨by simp;omega,hcp.1,hcp.2,by omega,?_,an hU 24⟩,by omega,aY hbw.size,?_⟩
  ·skip
   exact(hr3.ah _ _ (fun a ha=>by cases ha;simp;omega)).ah _ _ (fun a ha=>by cases ha;simp;omega)
  ·exact(((hbw.trans ((aQ hb3).mono hbw.size)).setCell (by simp) _).setCell (by simp) _)
 ·have hn':¬24<(n:Int):=by omega
  obtain rfl:k=n:=by have:=HX.out;omega
  have hkc:(k:Int)<=(nc:Int):=by omega
  have hk24:k<=24:=by omega
  go_enter Tryz.func31,Tryz.ntmps31;go_wp2;have hb1:Bx ((w.alloc (.cells #[.bool s,.slice (some ⟨b,off,none⟩) k nc] 50)).alloc (.cells #[.bool false,.slice none 0 0] 50)) w.heap.size (.bool s) (.slice (some ⟨b,off,none⟩) k nc):=(Bx.new _ _ _ rfl).alloc _;have hb2:Bx ((w.alloc (.cells #[.bool s,.slice (some ⟨b,off,none⟩) k nc] 50)).alloc (.cells #[.bool false,.slice none 0 0] 50)) (w.heap.size+1) (.bool false) (.slice none 0 0):=Bx.new _ _ _ (Js ..).symm;have hbw:Below w.heap.size w ((w.alloc (.cells #[.bool s,.slice (some ⟨b,off,none⟩) k nc] 50)).alloc (.cells #[.bool false,.slice none 0 0] 50)):=((Jt _ _).alloc (Jr _) _).alloc (by simp) _
  have hsz:((w.alloc (.cells #[.bool s,.slice (some ⟨b,off,none⟩) k nc] 50)).alloc (.cells #[.bool false,.slice none 0 0] 50)).heap.size=w.heap.size+1+1:=by simp
  generalize ((w.alloc (.cells #[.bool s,.slice (some ⟨b,off,none⟩) k nc] 50)).alloc (.cells #[.bool false,.slice none 0 0] 50))=W at *
  have HS:Hid (W.heap.size=w.heap.size+1+1):=hsz;clear hsz;have k0:=hb1.c0;have k1:=hb1.c1;obtain⟨hi,hz0,hz1,hz2⟩:=HI.out;have hsrc:∀j v,((xs.take k).map (Value.int .u32))[j]?=some v->W.drew.cell? ((⟨b,off,none⟩:Addr).add j)=some v:=by
   obtain⟨b',off',hp,hc⟩:=((hX.below hbw).take k).drew (by simp;omega)
   cases hp
   exact Rd.src hc
  go_region_held3 (fun w'=>w'.cell? ⟨w.heap.size,0,none⟩=some (.bool s)/\w'.cell? ⟨w.heap.size,1,none⟩=some (.slice (some ⟨b,off,none⟩) k nc)) (first|(simp[go_sem, *];done)|exact fW (by assumption) (by assumption))
   (first
    |(refine step_append_lies _ rfl _ _ 48 rfl w.heap.size 97 i0 (.int .u32 0) 1 4 Tryz.underlying48 hi hz0 hz1 hz2 rfl (by decide) (.slice none 0 0) 0 [] rfl (World.ownsRow_nil _ _ _ _) ⟨b,off,none⟩ k nc ((xs.take k).map (Value.int .u32)) rfl (by simp;omega) ?_ (mZ _ _) hk0 (by unfold maxLen;omega) (by omega) hbw.size _ rfl ?_;exact hsrc;intro g cap w3 hown3 hgrow3 hat3 hlt3;have hb3:=lL (w:=W.drew) hgrow3;obtain⟨c0,c1,f0,f1⟩:=cj (aQ hb3) hb2.c0 hb2.c1 hb2.f0 hb2.f1))
  go_wp2;obtain rfl:g=W.heap.size:=by rcases hat3 with h|h;cases h;exact h
  have hr3:Rd w3 (some ⟨W.heap.size,0,none⟩) .u32 (xs.take k):=gT (by simpa using hown3)
  have hs3:=HS.out;have hcp:k<=cap/\cap<=maxLen:=by
   rcases hown3.2 with ⟨h,_⟩|⟨g',cap',cur,h,_,_,h4,h5,_⟩
   ·cases h
   ·cases h;exact⟨by omega,h5⟩
  refine bodyPost_ret (v:=.agg #[.bool s,.slice (some ⟨W.heap.size,0,none⟩) k cap]) (by simp[results,Tryz.results31,go_sem,c0,c1]) rfl ?_
  refine⟨_,k,cap,rfl,⟨by simp;omega,hcp.1,hcp.2,by omega,?_,an hU 24⟩,by omega,aY hbw.size,?_⟩
  ·rw[Jv (l:=xs) (i:=k) (by omega)] at hr3
   rw[Jv (l:=xs) (i:=24) (by omega)]
   exact(hr3.ah _ _ (fun a ha=>by cases ha;simp;omega)).ah _ _ (fun a ha=>by cases ha;simp;omega)
  ·exact(((hbw.trans ((aQ hb3).mono hbw.size)).setCell (by simp) _).setCell (by simp) _)
theorem vT(ty:TypeId)(q:Option Addr)(c:Nat)(w:World):(Builtin.append_ #[48,48] ty #[.slice none 0 0,.slice q 0 c]).run Tryz.prog w=.ok (.slice none 0 0) w:=by
 obtain⟨i0,hi,hzz⟩:=Option.map_eq_some_iff.1 mS
 cases q<;>simp[Builtin.append_,run_underlying Tryz.underlying48,sizeOf,typeInfo,hi,Builtin.lenOf,Builtin.firstCells,loadCells,loadCellsFrom]
theorem Be(s:Bool)(w:World):
  Calls Tryz.prog 31 #[.agg #[.bool s,.slice none 0 0]] w (oZ s [] w):=by
 have ha:=fun ty w=>vT ty none 0 w
 go_enter Tryz.func31,Tryz.ntmps31;go_wp2;have hb1:Bx ((w.alloc (.cells #[.bool s,.slice none 0 0] 50)).alloc (.cells #[.bool false,.slice none 0 0] 50)) w.heap.size (.bool s) (.slice none 0 0):=(Bx.new _ _ _ rfl).alloc _;have hb2:Bx ((w.alloc (.cells #[.bool s,.slice none 0 0] 50)).alloc (.cells #[.bool false,.slice none 0 0] 50)) (w.heap.size+1) (.bool false) (.slice none 0 0):=Bx.new _ _ _ (Js ..).symm;have hbw:Below w.heap.size w ((w.alloc (.cells #[.bool s,.slice none 0 0] 50)).alloc (.cells #[.bool false,.slice none 0 0] 50)):=((Jt _ _).alloc (Jr _) _).alloc (by simp) _
 generalize ((w.alloc (.cells #[.bool s,.slice none 0 0] 50)).alloc (.cells #[.bool false,.slice none 0 0] 50))=W at *
 have k0:=hb1.c0;have k1:=hb1.c1;have c0:=hb2.c0;have c1:=hb2.c1;have f0:=hb2.f0;have f1:=hb2.f1;go_region_held3 (fun w'=>w'.cell? ⟨w.heap.size,0,none⟩=some (.bool s)/\w'.cell? ⟨w.heap.size,1,none⟩=some (.slice none 0 0)) (first|(simp[go_sem, *];done)|exact fW (by assumption) (by assumption)) (fail)
 go_wp2;refine bodyPost_ret (v:=.agg #[.bool s,.slice none 0 0]) (by simp[results,Tryz.results31,go_sem,c0,c1]) rfl ?_
 exact⟨none,0,0,rfl,⟨rfl,Jr _,by unfold maxLen;decide,by decide,Rd.nil,jg⟩,by decide,dI,(hbw.drew.setCell (by simp) _).setCell (by simp) _⟩
theorem Bf(s:Bool)(a:Addr)(nc:Nat)(w:World)(hb:nc<=maxLen):
  Calls Tryz.prog 31 #[.agg #[.bool s,.slice (some a) 0 nc]] w (oZ s [] w):=by
 have hb':=hb;unfold maxLen at hb'
 have ha:=fun ty w=>vT ty (some a) nc w
 have hnc0:(0:Int)<=(nc:Int):=by omega
 go_enter Tryz.func31,Tryz.ntmps31;go_wp2;have hb1:Bx ((w.alloc (.cells #[.bool s,.slice (some a) 0 nc] 50)).alloc (.cells #[.bool false,.slice none 0 0] 50)) w.heap.size (.bool s) (.slice (some a) 0 nc):=(Bx.new _ _ _ rfl).alloc _;have hb2:Bx ((w.alloc (.cells #[.bool s,.slice (some a) 0 nc] 50)).alloc (.cells #[.bool false,.slice none 0 0] 50)) (w.heap.size+1) (.bool false) (.slice none 0 0):=Bx.new _ _ _ (Js ..).symm;have hbw:Below w.heap.size w ((w.alloc (.cells #[.bool s,.slice (some a) 0 nc] 50)).alloc (.cells #[.bool false,.slice none 0 0] 50)):=((Jt _ _).alloc (Jr _) _).alloc (by simp) _
 generalize ((w.alloc (.cells #[.bool s,.slice (some a) 0 nc] 50)).alloc (.cells #[.bool false,.slice none 0 0] 50))=W at *
 have k0:=hb1.c0;have k1:=hb1.c1;have c0:=hb2.c0;have c1:=hb2.c1;have f0:=hb2.f0;have f1:=hb2.f1;go_region_held3 (fun w'=>w'.cell? ⟨w.heap.size,0,none⟩=some (.bool s)/\w'.cell? ⟨w.heap.size,1,none⟩=some (.slice (some a) 0 nc)) (first|(simp[go_sem, *];done)|exact fW (by assumption) (by assumption)) (fail)
 go_wp2;refine bodyPost_ret (v:=.agg #[.bool s,.slice none 0 0]) (by simp[results,Tryz.results31,go_sem,c0,c1]) rfl ?_
 exact⟨none,0,0,rfl,⟨rfl,Jr _,by unfold maxLen;decide,by decide,Rd.nil,jg⟩,by decide,dI,(hbw.drew.setCell (by simp) _).setCell (by simp) _⟩
theorem FP(s:Bool)(p:Option Addr)(n nc:Nat)(xs:List Int)(w:World)(hl:xs.length=n)(hnc:n<=nc)(hb:nc<=maxLen)(hX:Rd w p .u32 xs)(hU:U32 xs)(hp:p=none->nc=0):
  Calls Tryz.prog 31 #[.agg #[.bool s,.slice p n nc]] w (oZ s xs w):=by
 rcases Jw n with h|h
 ·subst h
  obtain rfl:xs=[]:=JB hl
  cases p with
  |none=>rw[hp rfl];exact Be s w
  |some a=>exact Bf s a nc w hb
 ·obtain⟨b,off,rfl,_⟩:=hX (by omega)
  exact Dh s b off n nc (min n 24) xs w hl hnc hb hX hU rfl (by omega)
end Go.Proofs.YtdjjlghlcffflaaGreatDoor
