/- Own. -/
import Derived.Test.YtdjjlghlcffflaaGreatDoorRe
import Derived.Test.YtdjjlghlcffflaaGreatDoorUe
set_option linter.unusedVariables false
set_option linter.unusedSimpArgs false
set_option maxHeartbeats 8000000
set_option maxRecDepth 100000
namespace Go.Proofs.YtdjjlghlcffflaaGreatDoor
open Go.RowKit
theorem Bh(s:Bool)(p:Option Addr)(n nc:Nat)(xs:List Int)(w:World)(hA:AI w p n nc xs):
  Calls Tryz.prog 29 #[.agg #[.bool s,.slice p n nc]] w fun e w'=>∃s' p' n' ds',e=.returned (.agg #[.bool s',.slice p' n' n'])/\RN w' s' p' n' ds'/\aF s' ds'=aq s xs/\n'<=2*n/\aJ w.heap.size p'/\Below w.heap.size w w':=by
 refine(Dj s p n nc xs w hA).mono ?_;rintro e w' ⟨s',q,nq,rfl,hR,rfl,hF,hb⟩;refine⟨_,q,nq,_,rfl,hR,by rw[gH s (zT hA.u),EO],?_,hF,hb⟩
 have h1:=hR.nrm;rw[aM] at h1
 have h2:=aj (spl xs);rw[jP] at h2
 have:=hA.len;omega
theorem eC(N:Nat):o5 (fun w z e=>RE w N z e):=⟨fun h hg hne=>h.grown hg hne,fun h=>h.lt⟩
variable {base N:Nat} {w:World} {v:Value} {es:List Ent} {zs:List Int}
theorem LG.pr(h:LG base 65 (fun w z e=>RE w N z e) w v es zs):∃q cap,v=.slice q es.length cap/\PR w N q es.length cap es zs/\aJ base q:=by
 obtain⟨q,cap,h1,h2,h3,h4,h5,-⟩:=h.pl;exact⟨q,cap,h1,⟨rfl,h.zl,h2,h3,h4,h.ev⟩,h5⟩
variable {K n nc:Nat} {p:Option Addr} {es0:List Ent}
theorem sQ(h:PA w K p n nc es0 zs)(hn:n<=100000)(hK:K<=400):
  Calls Tryz.prog 6 #[.slice p n nc] w (PrF (tr zs) (2*K) w):=by
 obtain⟨i0,hi,hzz⟩:=Option.map_eq_some_iff.1 iT;simp only[Prod.mk.injEq] at hzz
 obtain⟨hz0,hz1,hz2⟩:=hzz;have HI:Hid (Tryz.prog.info? 65=some i0/\i0.zero=some (.agg #[.bool false,.slice none 0 0])/\i0.size=2/\i0.bytes=32):=⟨hi,hz0,hz1,hz2⟩;have HX:Hid (PA w K p n nc es0 zs):=h;clear h hi hz0 hz1 hz2;go_enter Tryz.func6,Tryz.ntmps6;go_wp2_with fail;go_loopw [3,4] (fun qv iv wr=>∃(k:Nat) (es:List Ent),k<=n/\iv=.int .i64 k/\Hid (es.length=k/\LG w.heap.size 65 (fun w z e=>RE w (2*K) z e) wr qv es (zs.take k)/\Below w.heap.size w wr/\∀j,j<k->0<(ge es j).n->aJ w.heap.size (ge es j).p)) (fun _ iv _=>n-(intOf iv).toNat)
 case atStart=>exact⟨0,[],Jz _,by go_num,rfl,by rw[List.take_zero];exact LG.nil _ _ _ _,Jt _ _,fun j hj=>absurd hj (by omega)⟩
 case round=>
  obtain⟨k,es,hk,rfl,H⟩:=hrel;rcases Ju k n with hlt|hge
  ·obtain⟨hel,hLR,hB,hfr⟩:=H.out
   have hPA:=HX.out.below hB;obtain⟨b,o,hp,hc⟩:=hPA.pl (by rw[hPA.el];omega)
   subst hp;obtain⟨c0,c1⟩:=hc k (by rw[hPA.el];omega)
   obtain⟨xs,hA,hv,hle⟩:=hPA.ev k hlt;have hzl:=hPA.zl;clear hel hLR hB hc hPA hfr;go_wp2_with fail;refine(Bh (ge es0 k).s (ge es0 k).p (ge es0 k).n (ge es0 k).c xs _ hA).mono ?_;rintro e w1 ⟨s1,p1,n1,d1,rfl,hR1,hv1,hn1,hF1,hb1⟩;have HE:Hid (RE w1 (2*K) (gx zs k) ⟨s1,p1,n1,n1⟩):=⟨⟨d1,hR1,by rw[hv1,hv],by show n1<=_;omega⟩,rfl⟩
   clear c0 c1 hR1 hv1 hA hv;obtain⟨hi,hz0,hz1,hz2⟩:=HI.out;have hown0:=cD H.out.2.1.own hb1;rw[H.out.1] at hown0
   have HO:Hid (w1.ownsRow w.heap.size 65 2 u3 k (fl es)):=hown0;have hsz:w.heap.size<=w1.heap.size:=JA H.out.2.2.1.size hb1.size;clear hown0;go_wp2_with (refine wpList_append_lies _ rfl _ _ 31 rfl w.heap.size 65 i0 (.agg #[.bool false,.slice none 0 0]) 2 32 Tryz.underlying31 hi hz0 hz1 hz2 rfl (by decide) u3 k (fl es) rfl (HO.out.alloc _) ⟨w1.heap.size,0,none⟩ 1 1 [.bool s1,.slice p1 n1 n1] rfl rfl ?_ (fun x hx=>by simp at hx;rcases hx with rfl|rfl<;>rfl) (by decide) (by unfold maxLen;omega) (by omega) (by simp;omega) _ rfl ?_;exact World.news_of_block (heap_alloc_new w1 _);intro g cap w3 hown3 hgrow3 hat3 hlt3;have hB3:Below w.heap.size w w3:=((ae H.out.2.2.1 hb1).alloc hsz _).grown hgrow3 (by simp;omega) (fun q hq=>(HO.out.lt q hq).1);have HA:Hid (LG w.heap.size 65 (fun w z e=>RE w (2*K) z e) w3 (.slice (some ⟨g,0,none⟩) (k+1) cap) (es++[⟨s1,p1,n1,n1⟩]) (zs.take k++[gx zs k])):=wS (eC _) H.out.1 H.out.2.1 hb1 HE.out hF1 hown3 hgrow3 hat3;clear hown3 hgrow3 hat3)
   refine⟨⟨k+1,es++[⟨s1,p1,n1,n1⟩],by omega,by go_num,by have:=H.out.1;simp;omega,by rw[eU zs k (by omega)];exact HA.out,hB3,fun j hj h0=>?_⟩,by simp[intOf];omega⟩
   have hel:=H.out.1;rcases Ju j k with h|h
   ·rw[cy _ _ _ (by omega)] at h0 ⊢
    exact H.out.2.2.2 j h h0
   ·obtain rfl:j=es.length:=by omega
    rw[fH];exact fun a ha=>JA H.out.2.2.1.size (hF1 a ha)
  ·obtain rfl:k=n:=by omega
   obtain⟨hel,hLR,hB,hfr⟩:=H.out;have hzl:=HX.out.zl;rw[Jv (by omega)] at hLR
   obtain⟨q,cap,hv,hPR,hF⟩:=hLR.pr;subst hv;rw[hel] at hPR ⊢
   have HB:Hid (Below w.heap.size w wr):=hB;have HF:Hid (∀j,j<k->0<(ge es j).n->aJ w.heap.size (ge es j).p):=hfr;clear H hLR hB hge hk hfr;go_wp2_with fail;refine(gS (2*K) q k cap es zs _ hPR (by omega)).mono ?_
   rintro e w1 ⟨rfl,hb1⟩;have HP:Hid (PR wr (2*K) q k cap es zs):=hPR;clear hPR;go_wp2;go_ret;have htl:=aj zs;have hcap:=HP.out.cap;have hT:=(HP.out.below hb1).take (ad zs) (ad zs) (by omega) (Jr _) (by omega)
   refine⟨q,ad zs,es.take (ad zs),rfl,hT,hF,aM zs,fun j hj h0=>?_,ae HB.out hb1⟩
   rw[e_ _ _ _ hj] at h0 ⊢
   exact HF.out j (by omega) h0
theorem AU(h:PA w K p n nc es0 zs)(hn:n<=100000)(hK:K<=400):
  Calls Tryz.prog 6 #[.slice p n nc] w (PrP (tr zs) (2*K) w):=by
 refine(sQ h hn hK).mono ?_;rintro e w' ⟨q,m,es,h1,h2,h3,h4,-,h5⟩;exact⟨q,m,es,h1,h2,h3,h4,h5⟩
theorem oq:(Tryz.prog.info? 31).map (fun i=>(i.zero,i.size,i.bytes))=some (some (.slice none 0 0),1,24):=by kernel_rfl
def EY(N D:Nat)(w:World)(B T:Nat)(zs:List Int)(h:Hdr):Prop:=
 ∃fs,PR w N h.p h.n h.c fs zs/\h.c=h.n/\ad zs=h.n/\h.n<=D/\(∀a,h.p=some a->0<h.n->B<=a.block/\a.block<T)/\∀j,j<h.n->0<(ge fs j).n->∀a,(ge fs j).p=some a->B<=a.block/\a.block<T
theorem bO(N D:Nat):js (EY N D):=⟨fun {w w' B T z h row} he hT hg hr=>by
  obtain⟨fs,k,e1,e2,h1,h2,h3⟩:=he;refine⟨fs,⟨k.el,k.zl,k.cap,k.bnd,fun hx=>(k.pl.same fun a ha hlt=>hg.block a.block hlt fun e=>?_) hx,fun j hj=>(eC N).grown (k.ev j hj) hg fun hn a ha e=>?_⟩,e1,e2,h1,h2,h3⟩
  ·have h4:=h2 a ha (by rw[<-k.el];exact hx)
   have h5:=hr a.block e.symm;omega
  ·have h4:=h3 j hj hn a ha
   have h5:=hr a.block e.symm;omega,fun {w B T B' T' z h} he hB hT=>by
  obtain⟨fs,k,e1,e2,h1,h2,h3⟩:=he;exact⟨fs,k,e1,e2,h1,fun a ha hn=>by have:=h2 a ha hn;omega,fun j hj hn a ha=>by have:=h3 j hj hn a ha;omega⟩⟩
variable {D m:Nat} {w':World} {q:Option Addr} {fs:List Ent}
theorem mM(h:PR w' N q m m fs zs)(h1:aJ w.heap.size q)(ht:ad zs=m)(h2:∀j,j<m->0<(ge fs j).n->aJ w.heap.size (ge fs j).p)(hm:m<=D):EY N D w' w.heap.size w'.heap.size zs ⟨q,m,m⟩:=by
 refine⟨fs,h,rfl,ht,hm,fun a ha hn=>⟨h1 a ha,?_⟩,fun j hj hn a ha=>⟨h2 j hj hn a ha,(eC N).lt (h.ev j hj) hn a ha⟩⟩
 obtain⟨b,o,hp,hlt⟩:=h.pl.lt (by rw[h.el];exact hn)
 simp only at ha;rw[hp] at ha
 cases ha
 exact hlt
theorem jJ{α β:Type}[Inhabited α](f:α->β)(l:List α)(j:Nat)(h:j<l.length):(l.take (j+1)).map f=(l.take j).map f++[f (gt l j)]:=by
 rw[List.take_succ_eq_append_getElem h,List.map_append];simp[gt,h]
theorem BP(N E:Nat)(w:World)(B T:Nat):EY N E w B T [] ⟨none,0,0⟩:=
 ⟨[],⟨rfl,rfl,Jr _,Jz _,PL.nil,fun j hj=>absurd hj (Nat.not_lt_zero j)⟩,rfl,rfl,Jz _,nofun,fun j hj=>absurd hj (Nat.not_lt_zero j)⟩
variable {B T E:Nat} {zss:List (List Int)} {h:Hdr}
theorem sM(H:HR D (EY N E) w B T zss h)(hT:T<=w.heap.size)(hD:D<=1000000)(hE:E<=1000000):
  Calls Tryz.prog 28 #[.slice h.p h.n h.c] w fun e w'=>e=.returned (.slice h.p (aE zss) (aE zss))/\Below w.heap.size w w':=by
 obtain⟨hs,k⟩:=H;have HX:Hid (ew D (EY N E) w B T zss h hs/\T<=w.heap.size):=⟨k,hT⟩;have hn:h.n<=D:=k.few;have hcap:h.n<=h.c:=k.cap;have hbnd:h.c<=maxLen:=k.bnd;have hpn:h.p=none->h.c=0:=k.pn;have HL:Hid (zss.length=h.n):=k.tl;obtain⟨p,n,nc⟩:=h;simp only at hn hcap hbnd hpn HL ⊢
 have hbnd':=hbnd;unfold maxLen at hbnd'
 clear k hT;go_enter Tryz.func28,Tryz.ntmps28;go_wp2;go_loopw [3] (fun nv wr=>∃k:Nat,k<=n/\nv=.int .i64 k/\Hid ((∀j,k<=j->ad (gt zss j)=0)/\Below w.heap.size w wr)) (fun nv _=>(intOf nv).toNat)
 case atStart=>exact⟨n,Jr _,by go_num,fun j hj=>by rw[gy _ _ (by have:=HL.out;omega)];rfl,Jt _ _⟩
 case round=>
  obtain⟨k,hk,rfl,H⟩:=hrel;rcases Jw k with h0|h0
  ·subst h0
   have HT:Hid (aE zss=0):=mi zss 0 (fun j _=>H.out.1 j (Jz _)) (.inl rfl)
   rcases p with _|a
   ·obtain rfl:=hpn rfl
    go_wp2;go_ret;exact⟨by rw[HT.out];rfl,H.out.2⟩
   ·go_wp2
    go_ret;exact⟨by rw[HT.out];rfl,H.out.2⟩
  ·obtain⟨i,rfl⟩:∃i,k=i+1:=⟨k-1,by omega⟩
   obtain⟨H1,H2⟩:=H.out;have HH:Hid ((∀j,i+1<=j->ad (gt zss j)=0)/\Below w.heap.size w wr):=⟨H1,H2⟩;obtain⟨b,o,hp,hc⟩:=HX.out.1.hl (by rw[HX.out.1.el];show 0<n;omega)
   simp only at hp;subst hp
   have c0:=hc i (by rw[HX.out.1.el];show i<n;omega)
   have c1:wr.cell? ⟨b,o+i,none⟩=some (gh hs i).val:=by rw[H2.cell (block_lt_of_cell c0)];exact c0
   have hE2:Hid (ad (gt zss i)=(gh hs i).n):=by obtain⟨fs,-,-,h2,-⟩:=HX.out.1.ev i (by show i<n;omega);exact h2
   generalize gh hs i=hd at c1 hE2
   obtain⟨p2,n2,nc2⟩:=hd;simp only[Hdr.val] at c1 hE2
   have v1:wrap64 ((i:Int)+1-1)=(i:Int):=by unfold wrap64;omega
   have hlt:(i:Int)<(n:Int):=by omega
   clear H H1 H2 hc c0;rcases Jw n2 with hz|hz
   ·subst hz
    go_wp2;go_roundw
    case rel=>exact⟨i,by omega,by go_num,fun j hj=>by
     rcases Ju i j with h|h
     ·exact HH.out.1 j h
     ·have:j=i:=by omega
      subst this;exact hE2.out,HH.out.2⟩
    case measure=>simp[intOf]
   ·have HT:Hid (aE zss=i+1):=mi zss (i+1) HH.out.1 (.inr (by show ¬ad (gt zss i)=0;rw[hE2.out];omega))
    have d1:((n2:Int)==0)=false:=by rw[beq_eq_false_iff_ne];omega
    have d2:¬(n2:Int)=0:=by omega
    go_wp2;go_ret;exact⟨by rw[HT.out];rfl,HH.out.2⟩
theorem Ew(H:HR D (EY N E) w B T zss h)(i:Nat)(hD:D<=1000)(hi:i<=1000):
  Calls Tryz.prog 95 #[.slice h.p h.n h.c,.int .i64 i] w fun e w'=>∃hd,e=.returned (Hdr.val hd)/\EY N E w B T (gt zss i) hd/\w'=w:=by
 obtain⟨hs,k⟩:=H;have HX:Hid (ew D (EY N E) w B T zss h hs):=k;have hn:=k.few;obtain⟨p,n,nc⟩:=h;simp only at hn ⊢
 clear k;have i0:¬(i:Int)<0:=by omega
 rcases Ju i n with hlt|hge
 ·obtain⟨b,o,hp,hc⟩:=HX.out.hl (by rw[HX.out.el];show 0<n;omega)
  simp only at hp;subst hp
  have c0:=hc i (by rw[HX.out.el];exact hlt)
  have HE:Hid (EY N E w B T (gt zss i) (gh hs i)):=HX.out.ev i hlt;have i1:(i:Int)<(n:Int):=by omega
  have i2:¬(n:Int)<=(i:Int):=by omega
  generalize gh hs i=hd at c0 HE
  obtain⟨p2,n2,nc2⟩:=hd;simp only[Hdr.val] at c0
  clear hc;go_enter Tryz.func95,Tryz.ntmps95;go_wp2;go_ret;exact⟨⟨p2,n2,nc2⟩,rfl,HE.out,rfl⟩
 ·have HE:Hid (EY N E w B T (gt zss i) ⟨none,0,0⟩):=by
   rw[gy _ _ (by have:=HX.out.tl;simp only at this;omega)]
   exact BP N E w B T
  have i2:(n:Int)<=(i:Int):=by omega
  go_enter Tryz.func95,Tryz.ntmps95;go_wp2;go_ret;exact⟨⟨none,0,0⟩,rfl,HE.out,rfl⟩
def OrP(D:Nat)(l:List (List Int))(N E:Nat)(w:World)(e:Ending)(w':World):Prop:=
 ∃p,e=.returned (.slice p (aE l) (aE l))/\HR D (EY N E) w' w.heap.size w'.heap.size (otr l) ⟨p,aE l,aE l⟩/\Below w.heap.size w w'
variable {wr w1:World} {cap:Nat} {hs:List Hdr} {l:List (List Int)}
theorem xU(h:ew D (EY N E) wr w.heap.size wr.heap.size l ⟨q,hs.length,cap⟩ hs)(hb:Below w.heap.size w wr)(hb1:Below wr.heap.size wr w1):
  OrP D l N E w (.returned (.slice q (aE l) (aE l))) w1:=by
 have hol:=iW l;have htl:=h.tl;refine⟨q,rfl,?_,ae hb hb1⟩;have h1:=h.cut (aE l) (by simp only at htl ⊢;omega)
 have h2:HR D (EY N E) wr w.heap.size wr.heap.size (otr l) ⟨q,aE l,aE l⟩:=⟨_,h1⟩;exact(cT (bO N E)).wide ((cT (bO N E)).below h2 (Jr _) hb1) (Jr _) hb1.size
variable {ds:List Int}
theorem jb(s:Bool)(h:U16 ds):vd ds=((aF s ds).natAbs:Int):=by
 have:=aI h;unfold aF;split<;>omega
variable {z:Int} {e:Ent} {g o:Nat} {u:Value}
theorem RE.b8(h:RE w N z e)(ho:0<e.n->Off g e.p):RE ((w.setCell ⟨g,o,none⟩ u).setCell ⟨g,o+1,none⟩ v) N z e:=by
 obtain⟨⟨ds,h1,h2⟩,h4⟩:=h;refine⟨⟨ds,⟨h1.len,fun hx=>?_,h1.u,h1.nrm,h1.sg,h1.sml⟩,h2⟩,h4⟩
 have:=ho (by rw[h1.len] at hx;exact hx)
 exact((h1.rd.ah ⟨g,o,none⟩ u this).ah ⟨g,o+1,none⟩ v this) hx
variable {s:Bool}
theorem RN.fit(h:RN w s p n ds)(hz:((aF s ds).natAbs:Int)<pd N):n<=N:=by
 have a:=aI h.u;have e:((aF s ds).natAbs:Int)=vd ds:=by unfold aF;split<;>omega
 rw[e] at hz
 rcases Ju N n with hk|hk
 ·have b:=db h.u (by rw[h.nrm];omega)
  rw[h.nrm] at b
  have c:=dg (show N<=n-1 by omega)
  omega
 ·exact hk
theorem I7{o:Obj}(h:RE w N z e):RE (w.alloc o) N z e:=h.below ((Jt _ _).alloc (Jr _) o)
theorem FE{a:Addr}(h:RE w N z e)(ho:0<e.n->Off a.block e.p):RE (w.setCell a v) N z e:=by
 obtain⟨⟨ds,h1,h2⟩,h4⟩:=h;exact⟨⟨ds,⟨h1.len,fun hx=>(h1.rd.ah a v (ho (by rw[h1.len] at hx;exact hx))) hx,h1.u,h1.nrm,h1.sg,h1.sml⟩,h2⟩,h4⟩
theorem Hr{U:Nat}{a:Addr}(hU:0<e.n->∀x,e.p=some x->x.block<U)(ha:U<=a.block)(h:RE w N z e):RE (w.setCell a v) N z e:=FE h fun h0 b hb e'=>by have:=hU h0 b hb;omega
variable {F:Nat}
theorem Hs{a:Addr}(hF:aJ F e.p)(ha:a.block<F)(h:RE w N z e):RE (w.setCell a v) N z e:=FE h fun h0 b hb e'=>by have:=hF b hb;omega
theorem unFr(h:aJ w.drew.heap.size p):aJ w.heap.size p:=h
variable {i j k:Nat}
theorem B9{a c l:Nat}{x y:Value}(h:w.cell? ⟨a,i,none⟩=some u/\w.cell? ⟨a,j,none⟩=some v/\w.cell? ⟨c,k,none⟩=some x/\w.cell? ⟨c,l,none⟩=some y)(hb:Below w.heap.size w w'):w'.cell? ⟨a,i,none⟩=some u/\w'.cell? ⟨a,j,none⟩=some v/\w'.cell? ⟨c,k,none⟩=some x/\w'.cell? ⟨c,l,none⟩=some y:=
 ⟨cell_later hb h.1,cell_later hb h.2.1,cell_later hb h.2.2.1,cell_later hb h.2.2.2⟩
variable {r:Nat}
theorem Bx.kept{a b:Value}{row:Option Nat}(h:Bx w r a b)(hg:w.grownBy w' row)(hne:some r≠row):Bx w' r a b:=by
 have e:w'.heap[r]?=w.heap[r]?:=hg.block r (block_lt_of_cell h.c0) hne;exact⟨(World.cell?_of_block (a:=⟨r,0,none⟩) e).trans h.c0,(World.cell?_of_block (a:=⟨r,1,none⟩) e).trans h.c1,(World.frozen?_of_block (a:=⟨r,0,none⟩) e).trans h.f0,(World.frozen?_of_block (a:=⟨r,1,none⟩) e).trans h.f1⟩
theorem s_(h:ad zs=zs.length):tr zs=zs:=by rw[tr,h,List.take_length]
theorem G1(h:RE w N z e)(hz:z≠0):e.s=decide (z<0):=by
 obtain⟨⟨ds,h1,h2,h3⟩,h4⟩:=h;have:=aI h1.u
 cases hs:e.s<;>rw[hs,aF] at h2<;>simp at h2<;>simp<;>omega
theorem FT(s:Bool)(p:Option Addr)(n nc:Nat)(xs:List Int)(m:Int)(w:World)(hA:AI w p n nc xs)(h1:1<=m)(h2:m<=2147483647):
  Calls Tryz.prog 167 #[.agg #[.bool s,.slice p n nc],.int .i64 m] w fun e w'=>e=.returned (.tuple #[.int .i64 (aq s xs%m),.int .i64 0])/\Below w.heap.size w w':=by
 have h1':¬m<1:=by omega
 have h2':¬2147483647<m:=by omega
 have hl:=hA.len;have hs:=hA.sml;go_enter Tryz.func167,Tryz.ntmps167;go_wp2;go_loop [6,7] (fun rv iv=>∃(k:Nat) (r:Int),k<=n/\iv=.int .i64 ((k:Int)-1)/\rv=.int .u64 r/\0<=r/\r<m/\Hid (r=val (xs.drop k)%m)) (fun _ iv=>(intOf iv+1).toNat)
 case atStart=>exact⟨n,0,Jr _,by go_num,rfl,by decide,by omega,by show _=_;rw[JL (by omega)];simp[val]⟩
 case round=>
  obtain⟨k,r,hk,rfl,rfl,hr0,hr1,HR⟩:=hrel;by_cases h0:k=0
  ·subst h0
   have hv:=HR.out;rw[List.drop_zero] at hv
   have HV:Hid (r=val xs%m):=hv;clear hv HR
   cases s
   ·go_wp2
    go_ret2;have hv:=HV.out;subst hv;exact⟨rfl,(Jt _ _).alloc (Jr _) _⟩
   ·by_cases hz:r=0
    ·have hz':¬0<r:=by omega
     go_wp2;go_ret2;have hv:=HV.out;have e:aq true xs%m=0:=by
      simp only[aq,if_true];rw[hz] at hv;exact Int.emod_eq_zero_of_dvd (Int.dvd_neg.2 (Int.dvd_of_emod_eq_zero hv.symm))
     rw[e];exact⟨rfl,(Jt _ _).alloc (Jr _) _⟩
    ·have hz':0<r:=by omega
     go_wp2;go_ret2;have hv:=HV.out;have e:aq true xs%m=m-r:=by
      simp only[aq,if_true];exact neg_emod h1 hv hz
     rw[e];exact⟨rfl,(Jt _ _).alloc (Jr _) _⟩
  ·obtain⟨j,rfl⟩:∃j,k=j+1:=⟨k-1,by omega⟩
   have ej:((j+1:Nat):Int)-1=(j:Int):=by omega
   rw[ej];clear ej;obtain⟨b,off,hp,hcell⟩:=hA.rd (by omega)
   have hc:=hcell j (by omega)
   have hlt:=block_lt_of_cell hc;obtain⟨b0,b1⟩:=hA.u j;have ho:=jW r (gx xs j) hr0 (by omega) b0 b1
   have hmz:(m==0)=false:=beq_eq_false_iff_ne.2 (by omega)
   subst hp;clear hcell;go_wp2;refine⟨⟨j,_,by omega,rfl,rfl,Int.emod_nonneg _ (by omega),JK _ (by omega),?_⟩,by simp[intOf]⟩
   show _=_
   rw[drop_cons xs j (by omega)]
   simp only[val];have e:=Int.emod_add_mul_ediv (val (xs.drop (j+1))) m;rw[<-HR.out] at e
   have e2:gx xs j+4294967296*val (xs.drop (j+1))=(r*4294967296+gx xs j)+m*(4294967296*(val (xs.drop (j+1))/m)):=by
    rw[JH];omega
   rw[e2,Int.add_mul_emod_self_left]
theorem xn(x m:Int):∀j:Nat,(x%m)^j%m=x^j%m
 |0=>by simp
 |j+1=>by rw[Int.pow_succ,Int.pow_succ,Int.mul_emod,xn x m j,Int.emod_emod,<-Int.mul_emod]
theorem zp{a b m:Int}(a0:0<=a)(b0:0<=b)(a1:a<m)(b1:b<m)(hm:m<=2147483647):0<=a*b/\a*b<=2147483647*2147483647:=
 ⟨JJ a0 b0,Int.mul_le_mul (by omega) (by omega) b0 (by decide)⟩
theorem gZ(m a b:Int)(w:World)(hm:2<=m)(hm2:m<=2147483647)(a0:0<=a)(a1:a<m)(b0:0<=b)(b1:b<m):
  Calls Tryz.prog 171 #[.int .u64 m,.int .u64 a,.int .u64 b] w fun e w'=>e=.returned (.int .u64 (a*b%m))/\w=w':=by
 obtain⟨p0,p1⟩:=zp a0 b0 a1 b1 hm2;have hm0:¬m=0:=by omega
 have hm0':(m==0)=false:=by rw[beq_eq_false_iff_ne];exact hm0
 generalize hP:a*b=P at *
 have HP:=(show Hid _ from hP)
 have e:P.tmod m=P%m:=Int.tmod_eq_emod_of_nonneg p0;have q0:=Int.emod_nonneg P hm0;have q1:=JK P (show 0<m by omega)
 have v1:IntKind.u64.wrap P=P:=by rw[IntKind.wrap_u64];omega
 have v2:IntKind.u64.wrap (P%m)=P%m:=by rw[IntKind.wrap_u64];omega
 go_enter Tryz.func171,Tryz.ntmps171;go_wp2;go_ret;exact⟨rfl,rfl⟩
theorem uN(m a b:Int)(w:World)(hm:2<=m)(hm2:m<=2147483647)(a0:0<=a)(a1:a<m)(b0:0<=b)(b1:b<m):
  Calls Tryz.prog 172 #[.int .u64 m,.int .u64 a,.int .u64 b] w fun e w'=>e=.returned (.int .u64 ((a-b)%m))/\w=w':=by
 have hm0:¬m=0:=by omega
 have hm0':(m==0)=false:=by rw[beq_eq_false_iff_ne];exact hm0
 have e0:(a-b)%m=(a+m-b)%m:=by rw[show a+m-b=(a-b)+m by omega,Int.add_emod_right]
 rw[e0];have v0:IntKind.u64.wrap (a+m)=a+m:=by rw[IntKind.wrap_u64];omega
 have v1:IntKind.u64.wrap (a+m-b)=a+m-b:=by rw[IntKind.wrap_u64];omega
 have e:(a+m-b).tmod m=(a+m-b)%m:=Int.tmod_eq_emod_of_nonneg (by omega)
 have q0:=Int.emod_nonneg (a+m-b) hm0;have q1:=JK (a+m-b) (show 0<m by omega)
 have v2:IntKind.u64.wrap ((a+m-b)%m)=(a+m-b)%m:=by rw[IntKind.wrap_u64];omega
 go_enter Tryz.func172,Tryz.ntmps172;go_wp2;go_ret;exact⟨rfl,rfl⟩
theorem uX(m A:Int)(N:Nat)(w:World)(hm:2<=m)(hm2:m<=2147483647)(a0:0<=A)(a1:A<m)(hN:N<4294967296):
  Calls Tryz.prog 200 #[.int .u64 m,.int .u64 A,.int .u64 N] w fun e w'=>e=.returned (.int .u64 (A^N%m))/\w=w':=by
 go_enter Tryz.func200,Tryz.ntmps200;go_wp2;go_loop [1,2,7] (fun av nv zv=>∃(z a:Int) (k:Nat),zv=.int .u64 z/\av=.int .u64 a/\nv=.int .u64 k/\0<=z/\z<m/\0<=a/\a<m/\k<4294967296/\Hid (z*a^k%m=A^N%m)) (fun _ nv _=>(intOf nv).toNat)
 case atStart=>exact⟨1,A,N,by go_num,rfl,rfl,by omega,by omega,a0,a1,hN,by show _=_;rw[Int.one_mul]⟩
 case round=>
  obtain⟨z,a,k,rfl,rfl,rfl,z0,z1,x0,x1,hk,H⟩:=hrel;have hm0:¬m=0:=by omega
  rcases Jw k with h0|h0
  ·subst h0
   have HE:Hid (A^N%m=z):=by
    show _=_
    rw[<-H.out,Int.pow_zero,Int.mul_one,Int.emod_eq_of_lt z0 z1]
   clear H;go_wp2;go_ret;exact⟨by rw[HE.out];rfl,rfl⟩
  ·have hk0:(0:Int)<(k:Int):=by omega
   have t1:(k:Int).tmod 2=((k%2:Nat):Int):=by rw[Int.tmod_eq_emod_of_nonneg (by omega)];omega
   have t2:(k:Int).tdiv 2=((k/2:Nat):Int):=by rw[JM (by omega)];omega
   have v1:IntKind.u64.wrap ((k%2:Nat):Int)=((k%2:Nat):Int):=by rw[IntKind.wrap_u64];omega
   have v2:IntKind.u64.wrap ((k/2:Nat):Int)=((k/2:Nat):Int):=by rw[IntKind.wrap_u64];omega
   have HA:Hid (∀u:Int,(u*(a*a%m)^(k/2))%m=(u*a^(2*(k/2)))%m):=fun u=>by
    rw[Int.mul_emod,xn,<-Int.mul_emod,Int.pow_mul,show a^2=a*a from by rw[Int.pow_succ,Int.pow_succ,Int.pow_zero,Int.one_mul]]
   have r0:=Int.emod_nonneg (a*a) hm0;have r1:=JK (a*a) (show 0<m by omega)
   have s0:=Int.emod_nonneg (z*a) hm0;have s1:=JK (z*a) (show 0<m by omega)
   rcases Nat.mod_two_eq_zero_or_one k with hp|hp
   ·have c1:¬((k%2:Nat):Int)=1:=by omega
    have c2:(((k%2:Nat):Int)==1)=false:=by rw[beq_eq_false_iff_ne];exact c1
    have HP:Hid (k=2*(k/2)):=by show _=_;omega
    go_wp2_with fail;refine(gZ m a a _ hm hm2 x0 x1 x0 x1).mono ?_;rintro e w1 ⟨rfl,rfl⟩;go_wp2;go_round
    case rel=>
     refine⟨z,a*a%m,k/2,rfl,rfl,by go_num,z0,z1,r0,r1,by omega,?_⟩
     show _=_
     rw[HA.out z,<-HP.out];exact H.out
    case measure=>simp[intOf];omega
   ·have c1:((k%2:Nat):Int)=1:=by omega
    have HP:Hid (k=2*(k/2)+1):=by show _=_;omega
    go_wp2_with fail;refine(gZ m z a _ hm hm2 z0 z1 x0 x1).mono ?_;rintro e w1 ⟨rfl,rfl⟩;go_wp2_with fail;refine(gZ m a a _ hm hm2 x0 x1 x0 x1).mono ?_;rintro e w1 ⟨rfl,rfl⟩;go_wp2;go_round
    case rel=>
     refine⟨z*a%m,a*a%m,k/2,rfl,rfl,by go_num,s0,s1,r0,r1,by omega,?_⟩
     show _=_
     rw[HA.out,Int.mul_emod,Int.emod_emod,<-Int.mul_emod,JG];rw[show a*a^(2*(k/2))=a^k from by rw[show k=2*(k/2)+1 from HP.out,Int.pow_succ,JI];congr 2;omega]
     exact H.out
    case measure=>simp[intOf];omega
theorem qj(m:Nat)(A:Int)(w:World)(hm:2<=m)(hm2:m<=2147483647)(a0:0<=A)(a1:A<m):
  Calls Tryz.prog 168 #[.int .u64 m,.int .u64 A] w fun e w'=>e=.returned (.int .u64 (A^(m-2)%m))/\w=w':=by
 have e:(m:Int)-2=((m-2:Nat):Int):=by omega
 have v:IntKind.u64.wrap ((m-2:Nat):Int)=((m-2:Nat):Int):=by rw[IntKind.wrap_u64];omega
 go_enter Tryz.func168,Tryz.ntmps168;go_wp2_with fail;refine(uX m A (m-2) _ (by omega) (by omega) a0 a1 (by omega)).mono ?_
 rintro e w1 ⟨rfl,rfl⟩;go_wp2;go_ret;exact⟨rfl,rfl⟩
theorem vG(h:EV w K z e)(m:Int)(hm:2<=m)(hm2:m<=2147483647):
  Calls Tryz.prog 125 #[.int .u64 m,.agg #[.bool e.s,.slice e.p e.n e.c]] w fun r w'=>r=.returned (.int .u64 (z%m))/\Below w.heap.size w w':=by
 obtain⟨xs,h1,h2,h3⟩:=h;obtain⟨es,ep,en,ec⟩:=e;simp only at h1 h2 h3 ⊢
 have v1:IntKind.i64.wrap m=m:=by rw[IntKind.wrap_i64];omega
 have q0:=Int.emod_nonneg z (show m≠0 by omega)
 have q1:=JK z (show 0<m by omega)
 have v2:IntKind.u64.wrap (z%m)=z%m:=by rw[IntKind.wrap_u64];omega
 have HV:Hid (aq es xs=z):=h2;clear h2;go_enter Tryz.func125,Tryz.ntmps125;go_wp2_with fail;have hW0:=ag (o:=.cells #[.bool es,.slice ep en ec] 50) (Jt w.heap.size w);have hm:=FT es ep en ec xs m _ (h1.below hW0) (by omega) hm2
 rw[HV.out] at hm
 refine hm.mono ?_;rintro e w1 ⟨rfl,hb1⟩;clear hm;go_wp2;go_ret;exact⟨rfl,ae hW0 hb1⟩
theorem D4:(Tryz.prog.info? 128).map (fun i=>(i.zero,i.size,i.bytes))=some (some (.int .u64 0),1,8):=by kernel_rfl
theorem Cf(n:Nat)(h:n<=1000000000)(w:World):(Instr.makeSlice 136 (.int .i64 n) (.int .i64 n)).run Tryz.prog w =
  .ok (.slice (some ⟨w.heap.size,0,none⟩) n n) (w.alloc (.cells (ca .u64 (au n)) 128)):=by
 have hi:=D4
 cases hq:Tryz.prog.info? 128 with
 |none=>rw[hq] at hi;cases hi
 |some i=>
  rw[hq] at hi
  simp only[Option.map_some,Option.some.injEq,Prod.mk.injEq] at hi
  obtain⟨h1,h2,h3⟩:=hi;have hr:=run_make (P:=Tryz.prog) w 136 128 i (.int .u64 0) Tryz.underlying136 hq h1 .i64 .i64 n n (by omega) (Int.le_refl _) (by rw[h3];omega) (by omega)
  rw[Int.toNat_natCast,h2] at hr
  rw[hr];exact congrArg (fun c=>Result.ok (Value.slice (some ⟨w.heap.size,0,none⟩) n n) (w.alloc (.cells c 128))) (mW .u64 n)
theorem qF(p:Option Addr)(len cap:Nat)(xs:List Int)(w:World)(hl:xs.length=len)(hc:len<=cap)(hm:cap<=1000000)(hx:Rd w p .u64 xs):
  Calls Tryz.prog 170 #[.slice p len cap] w fun e w'=>e=.returned (.slice p (ad xs) cap)/\w=w':=by
 go_enter Tryz.func170,Tryz.ntmps170;go_wp2;go_loop [3] (fun n=>∃k:Nat,k<=len/\n=.int .i64 k/\Hid (∀j,k<=j->gx xs j=0)) (fun n=>(intOf n).toNat)
 case atStart=>exact⟨len,Jr _,rfl,ak xs len (by omega)⟩
 case round=>
  obtain⟨k,hk,rfl,hz⟩:=hrel;by_cases h0:k=0
  ·subst h0
   go_wp2;go_ret;rw[aX xs 0 hz.out (.inl rfl)];exact⟨rfl,rfl⟩
  ·obtain⟨m,rfl⟩:∃m,k=m+1:=⟨k-1,by omega⟩
   obtain⟨b,off,rfl,hcell⟩:=hx (by omega)
   have hcm:=hcell m (by omega)
   clear hcell;by_cases h1:gx xs m=0
   ·have h2:(gx xs m==0)=true:=by simp only[h1];rfl
    go_wp2;go_round
    case rel=>exact⟨m,by omega,by go_num,fun j hj=>by
     rcases Ju m j with h|h
     ·exact hz.out j h
     ·have:j=m:=by omega
      subst this;exact h1⟩
    case measure=>simp[intOf]
   ·have h2:(gx xs m==0)=false:=by simpa using h1
    go_wp2;go_ret;rw[aX xs (m+1) hz.out (.inr h1)];exact⟨rfl,rfl⟩
theorem cE(f:Int->Int)(h0:f 0=0)(xs:List Int)(j:Nat):gx (xs.map f) j=f (gx xs j):=by
 unfold gx;rw[List.getD_eq_getElem?_getD,List.getD_eq_getElem?_getD,List.getElem?_map]
 cases h:xs[j]? with
 |none=>simp[h0]
 |some v=>simp
def part(xs:List Int)(n k:Nat):List Int:=xs.take k++au (n-k)
theorem qp(xs:List Int)(n k:Nat)(h:xs.length=n)(hk:k<=n):(part xs n k).length=n:=by simp[part,au];omega
theorem uS(xs:List Int)(n:Nat):part xs n 0=au n:=by simp[part]
theorem xi(xs:List Int)(n:Nat)(h:xs.length=n):part xs n n=xs:=by simp[part,au,Jv,h]
theorem xj(xs:List Int)(n k:Nat)(h:xs.length=n)(hk:k<n):(part xs n k).set k (gx xs k)=part xs n (k+1):=by
 have e:n-k=(n-(k+1))+1:=by omega
 have hl:(xs.take k).length=k:=by simp;omega
 unfold part;rw[e,List.set_append_right _ _ (by omega),hl,Nat.sub_self]
 unfold au;rw[List.replicate_succ,List.set_cons_zero,bZ xs k (by omega),<-List.take_append_getElem (show k<xs.length by omega)]
 simp only[List.append_assoc,List.singleton_append]
theorem oN(h:PA w K p n nc es zs)(hn:n<=100000)(m:Int)(hm:2<=m)(hm2:m<=2147483647):
  Calls Tryz.prog 127 #[.int .u64 m,.slice p n nc] w fun e w'=>e=.returned (.slice (some ⟨w.heap.size,0,none⟩) (ad (zs.map (· % m))) n)/\Row w' w.heap.size 128 .u64 (zs.map (· % m))/\Below w.heap.size w w':=by
 have hmk:=Cf n (by omega)
 have hle:=h.el;have hzl:=h.zl;generalize hr:zs.map (· % m)=rs;have HR:Hid (∀j,gx rs j=gx zs j%m):=fun j=>by rw[<-hr];exact cE (· % m) (by simp) zs j
 have hrl:rs.length=n:=by rw[<-hr];simp;omega
 clear hr;go_enter Tryz.func127,Tryz.ntmps127;go_wp2_with fail;have hR0:=Row.new w 128 .u64 (au n);have hW0:Below w.heap.size w (w.alloc (.cells (ca .u64 (au n)) 128)):=(Jt _ _).alloc (Jr _) _;generalize w.alloc (.cells (ca .u64 (au n)) 128)=W0 at *
 clear hmk;go_loopw [6,7,13] (fun iv cv kv wr=>∃k:Nat,k<=n/\kv=.int .i64 k/\Hid (Row wr w.heap.size 128 .u64 (part rs n k)/\Below w.heap.size w wr)) (fun _ _ kv _=>n-(intOf kv).toNat)
 case atStart=>exact⟨0,Jz _,by go_num,by rw[uS];exact hR0,hW0⟩
 case round=>
  obtain⟨k,hk,rfl,H⟩:=hrel;rcases Ju k n with hlt|hge
  ·obtain⟨hR,hB⟩:=H.out
   have hPA:=h.below hB;obtain⟨b,o,hp,hc⟩:=hPA.pl (by omega)
   subst hp;obtain⟨c0,c1⟩:=hc k (by omega)
   have hv:=hPA.ev k hlt;have hsR:=hR.lt;have HH:Hid (Row wr w.heap.size 128 .u64 (part rs n k)/\Below w.heap.size w wr):=H.out;clear H hR hB hc hPA;go_wp2_with fail;have hal:=ag (o:=.cells #[.bool (ge es k).s,.slice (ge es k).p (ge es k).n (ge es k).c] 50) (Jt wr.heap.size wr);refine(vG (hv.below hal) m hm hm2).mono ?_;rintro e w1 ⟨rfl,hb1⟩;obtain⟨hR,hB⟩:=HH.out;have hb2:=ae hal hb1;have hR1:=hR.below hb2 hsR;have d0:=hR1.cell k (by rw[qp rs n k hrl hk];exact hlt)
   have f0:=hR1.frozen k;have hB1:=ae hB hb2;have hxk:=HR.out k;have hxk':gx zs k%m=gx rs k:=hxk.symm;have HI:Hid (Row w1 w.heap.size 128 .u64 (part rs n k)/\Below w.heap.size w w1):=⟨hR1,hB1⟩;clear hR hB hb2 hR1 hB1 hal hb1 hv c0 c1 HH hxk;go_wp2;go_roundw
   case rel=>
    obtain⟨hR,hB⟩:=HI.out;refine⟨k+1,by omega,by go_num,?_,hB.setCell (p:=⟨w.heap.size,k,none⟩) (Jr _) _⟩
    rw[<-xj rs n k hrl hlt];exact hR.set k _
   case measure=>simp[intOf];omega
  ·obtain rfl:k=n:=by omega
   obtain⟨hR,hB⟩:=H.out;rw[xi rs k hrl] at hR
   have HI:Hid (Row wr w.heap.size 128 .u64 rs/\Below w.heap.size w wr):=⟨hR,hB⟩;clear H hR hB hge hk;go_wp2_with fail;refine(qF _ _ _ rs wr hrl (Jr _) (by omega) HI.out.1.a8).mono ?_
   rintro e w1 ⟨rfl,rfl⟩;go_wp2;go_ret;exact⟨rfl,HI.out⟩
theorem sV(q:Option Addr)(n nc:Nat)(xs:List Int)(m c:Int)(w:World)(hl:xs.length=n)(hn:n<=100000)(hX:Rd w q .u64 xs)(hx:∀j,0<=gx xs j/\gx xs j<m)(hm:2<=m)(hm2:m<=2147483647)(c0:0<=c)(c1:c<m):
  Calls Tryz.prog 131 #[.int .u64 m,.slice q n nc,.int .u64 c] w fun e w'=>e=.returned (.slice (some ⟨w.heap.size,0,none⟩) n n)/\Row w' w.heap.size 128 .u64 (xs.map (· * c%m))/\Below w.heap.size w w':=by
 have hmk:=Cf n (by omega)
 generalize hr:xs.map (· * c%m)=rs;have HR:Hid (∀j,gx rs j=gx xs j*c%m):=fun j=>by rw[<-hr];exact cE (· * c%m) (by simp) xs j
 have hrl:rs.length=n:=by rw[<-hr];simp;omega
 have HX:Hid (Rd w q .u64 xs/\∀j,0<=gx xs j/\gx xs j<m):=⟨hX,hx⟩;clear hr hX hx;go_enter Tryz.func131,Tryz.ntmps131;go_wp2_with fail;have hR0:=Row.new w 128 .u64 (au n);have hW0:Below w.heap.size w (w.alloc (.cells (ca .u64 (au n)) 128)):=(Jt _ _).alloc (Jr _) _;generalize w.alloc (.cells (ca .u64 (au n)) 128)=W0 at *
 clear hmk;go_loopw [8,9,15] (fun iv cv kv wr=>∃k:Nat,k<=n/\kv=.int .i64 k/\Hid (Row wr w.heap.size 128 .u64 (part rs n k)/\Below w.heap.size w wr)) (fun _ _ kv _=>n-(intOf kv).toNat)
 case atStart=>exact⟨0,Jz _,by go_num,by rw[uS];exact hR0,hW0⟩
 case round=>
  obtain⟨k,hk,rfl,H⟩:=hrel;rcases Ju k n with hlt|hge
  ·obtain⟨hR,hB⟩:=H.out
   obtain⟨b,o,hp,hc⟩:=(HX.out.1.below hB) (by omega)
   subst hp;have e0:=hc k (by omega)
   obtain⟨x0,x1⟩:=HX.out.2 k;have HH:Hid (Row wr w.heap.size 128 .u64 (part rs n k)/\Below w.heap.size w wr):=H.out;clear H hR hB hc;go_wp2_with fail;refine(gZ m (gx xs k) c _ hm hm2 x0 x1 c0 c1).mono ?_;rintro e w1 ⟨rfl,rfl⟩;obtain⟨hR,hB⟩:=HH.out;have d0:=hR.cell k (by rw[qp rs n k hrl hk];exact hlt)
   have f0:=hR.frozen k;have hxk:=HR.out k;have hxk':gx xs k*c%m=gx rs k:=hxk.symm;clear hR hB hxk e0;go_wp2;go_roundw
   case rel=>
    obtain⟨hR,hB⟩:=HH.out;refine⟨k+1,by omega,by go_num,?_,hB.setCell (p:=⟨w.heap.size,k,none⟩) (Jr _) _⟩
    rw[<-xj rs n k hrl hlt];exact hR.set k _
   case measure=>simp[intOf];omega
  ·obtain rfl:k=n:=by omega
   obtain⟨hR,hB⟩:=H.out;rw[xi rs k hrl] at hR
   have HI:Hid (Row wr w.heap.size 128 .u64 rs/\Below w.heap.size w wr):=⟨hR,hB⟩;clear H hR hB hge hk;go_wp2;go_ret;exact⟨rfl,HI.out⟩
variable {x:Int}
theorem Ef{v:Int}(h1:0<=v/\v<65536)(h2:0<=x/\x<65536):0<=v*x/\v*x<=4294836225:=by
 refine⟨JJ h1.1 h2.1,?_⟩;have a1:v*x<=v*65535:=Jx (by omega) h1.1
 omega
variable {a b:List Int}
theorem Cg(ha:U16 a)(hb:U16 b)(hi:a.length<=i)(hj:b.length<=j):vd a*vd b<pd (i+j):=by
 have a1:=gg ha;have b1:=gg hb;have a0:=aI ha;have b0:=aI hb;have a2:=dg hi;have b2:=dg hj;rw[sG];have c1:vd a*vd b<=vd a*pd j:=Jx (by omega) a0
 have c2:vd a*pd j<pd i*pd j:=Int.mul_lt_mul_of_pos_right (by omega) (dp j)
 omega
theorem EA(s t:Bool)(p q:Option Addr)(n nc m mc:Nat)(xs ys:List Int)(w:World)(hn:xs.length=n)(hm:ys.length=m)(hnb:n<=1000000)(hmb:m<=1000000)(hX:Rd w p .i64 xs)(hXu:U16 xs)(hY:Rd w q .i64 ys)(hYu:U16 ys):
  Calls Tryz.prog 65 #[.agg #[.bool s,.slice p n nc],.agg #[.bool t,.slice q m mc]] w (j_ (n+m+1) (aF s xs*aF t ys) w):=by
 have hmk:=mf (n+m+1) (by omega)
 have ec:((n+m+1:Nat):Int)=(n:Int)+(m:Int)+1:=by omega
 rw[ec] at hmk
 clear ec;have HN:Hid (xs.length=n/\ys.length=m):=⟨hn,hm⟩;clear hn hm;go_enter Tryz.func65,Tryz.ntmps65;go_wp2;have hrow:=Row.new3 w (Obj.cells #[Value.bool s,Value.slice p n nc] 65) (Obj.cells #[Value.bool t,Value.slice q m mc] 65) (Obj.cells #[Value.bool false,Value.slice none 0 0] 65) 3 .i64 (au (n+m+1));have hWs:(((w.alloc (Obj.cells #[Value.bool s,Value.slice p n nc] 65)).alloc (Obj.cells #[Value.bool t,Value.slice q m mc] 65)).alloc (Obj.cells #[Value.bool false,Value.slice none 0 0] 65)).heap.size=w.heap.size+1+1+1:=by simp
 have hX3:=iJ w (.bool s) (.slice p n nc) (.bool t) (.slice q m mc) (.bool false) (.slice none 0 0) 65 65 65;generalize ((w.alloc (Obj.cells #[Value.bool s,Value.slice p n nc] 65)).alloc (Obj.cells #[Value.bool t,Value.slice q m mc] 65)).alloc (Obj.cells #[Value.bool false,Value.slice none 0 0] 65)=W at *
 have hXW:=hX.below hX3.below;have hYW:=hY.below hX3.below;have HWs:Hid (W.heap.size=w.heap.size+1+1+1):=hWs;clear hWs;have hbel:Below W.heap.size W (W.alloc (.cells (ca .i64 (au (n+m+1))) 3)):=(Jt _ _).alloc (Jr _) _;generalize W.alloc (.cells (ca .i64 (au (n+m+1))) 3)=W1 at *
 have HST:Hid (Row W1 (w.heap.size+1+1+1) 3 .i64 (au (n+m+1))/\Below W.heap.size W W1):=⟨hrow,hbel⟩;clear hrow hbel hmk;go_loopw [6] (fun iv wr=>∃(i:Nat) (D:List Int),i<=n/\iv=.int .i64 i/\Hid (D.length=n+m+1/\U16 D/\vd D=vd (xs.take i)*vd ys/\Row wr (w.heap.size+1+1+1) 3 .i64 D/\Below W.heap.size W wr)) (fun iv _=>n-(intOf iv).toNat)
 case atStart=>exact⟨0,au (n+m+1),Jz _,rfl,aZ _,g_ _,by simp[He,vd],HST.out.1,HST.out.2⟩
 case round=>
  obtain⟨i,D,hi,rfl,H⟩:=hrel;have hXr:=hX3.later H.out.2.2.2.2;have k1:=hXr.ca1;have k3:=hXr.cb1;by_cases hlt:i<n
  ·have hltI:(i:Int)<(n:Int):=by omega
   clear hXr;go_wp2;go_loopw [7,8] (fun cv jv wr'=>∃(j:Nat) (c:Int) (T:List Int),j<=m/\jv=.int .i64 j/\cv=.int .i64 c/\0<=c/\c<65536/\Hid (T.length=n+m+1/\U16 T/\vd T+pd (i+j)*c=vd D+pd i*(gx xs i*vd (ys.take j))/\Row wr' (w.heap.size+1+1+1) 3 .i64 T/\Below W.heap.size W wr')) (fun _ jv _=>m-(intOf jv).toNat)
   case atStart=>
    obtain⟨hl,hu,hv,hr,hg⟩:=H.out;exact⟨0,0,D,Jz _,rfl,rfl,by decide,by decide,hl,hu,by simp[vd],hr,hg⟩
   case round=>
    obtain⟨j,c,T,hj,rfl,rfl,hc0,hc1,HT⟩:=hrel;clear k1 k3;have hXr:=hX3.later HT.out.2.2.2.2;have k1:=hXr.ca1;have k3:=hXr.cb1;clear hXr;by_cases hjm:j<m
    ·have hjI:(j:Int)<(m:Int):=by omega
     have hijI:(i:Int)+(j:Int)<(n:Int)+(m:Int)+1:=by omega
     obtain⟨b1,o1,rfl,hc1'⟩:=(hXW.below HT.out.2.2.2.2) (by have:=HN.out;omega)
     obtain⟨b2,o2,rfl,hc2'⟩:=(hYW.below HT.out.2.2.2.2) (by have:=HN.out;omega)
     have g1:=hc1' i (by have:=HN.out;omega)
     have g2:=hc2' j (by have:=HN.out;omega)
     have g3:=HT.out.2.2.2.1.cell (i+j) (by have:=HT.out.1;omega)
     have g4:=HT.out.2.2.2.1.frozen (i+j);obtain⟨bt0,bt1⟩:=HT.out.2.1 (i+j);obtain⟨bm0,bm1⟩:=Ef (hXu i) (hYu j);obtain⟨bx0,bx1⟩:=hXu i;obtain⟨by0,by1⟩:=hYu j;have q1:(c+(gx T (i+j)+gx xs i*gx ys j)).tmod 65536=(c+(gx T (i+j)+gx xs i*gx ys j))%65536:=Int.tmod_eq_emod_of_nonneg (by omega)
     have q2:(c+(gx T (i+j)+gx xs i*gx ys j)).tdiv 65536=(c+(gx T (i+j)+gx xs i*gx ys j))/65536:=JM (by omega)
     have v0:IntKind.i64.wrap ((i:Int)+(j:Int))=(i:Int)+(j:Int):=by rw[IntKind.wrap_i64];omega
     have v1:IntKind.i64.wrap (gx xs i*gx ys j)=gx xs i*gx ys j:=by rw[IntKind.wrap_i64];omega
     have v2:IntKind.i64.wrap (gx T (i+j)+gx xs i*gx ys j)=gx T (i+j)+gx xs i*gx ys j:=by rw[IntKind.wrap_i64];omega
     have v3:IntKind.i64.wrap (c+(gx T (i+j)+gx xs i*gx ys j))=c+(gx T (i+j)+gx xs i*gx ys j):=by rw[IntKind.wrap_i64];omega
     have v4:((i:Int)+(j:Int)).toNat=i+j:=by omega
     have v5:0<=(i:Int)+(j:Int):=by omega
     clear hc1' hc2';go_wp2_with fail;go_quiet (fail);go_wp2_with fail;have hsW:=HWs.out;obtain⟨hl,hu,hv,hr,hg⟩:=HT.out;have hr':Row (wr.drewN nq) (w.heap.size+1+1+1) 3 .i64 T:=hr;refine⟨⟨j+1,_,T.set (i+j) ((c+(gx T (i+j)+gx xs i*gx ys j))%65536),by omega,by go_num,rfl,by omega,by omega,by rw[List.length_set];exact hl,c5 hu _ (by omega),?_,hr'.set (i+j) _,(below_drewN hg nq).setCell (by simp only;omega) _⟩,by simp[intOf];omega⟩
     rw[Dc T _ _ (by omega),aG ys j,<-Nat.add_assoc,bU]
     have e:=jM (pd (i+j)) (c+(gx T (i+j)+gx xs i*gx ys j));have e2:pd i*(gx xs i*(vd (List.take j ys)+pd j*gx ys j))=pd i*(gx xs i*vd (List.take j ys))+pd (i+j)*(gx xs i*gx ys j):=by
      rw[sG,JF,JF];congr 1;simp only[JG,JH]
     rw[e2];simp only[JF,Int.mul_sub] at e ⊢
     omega
    ·obtain rfl:j=m:=by omega
     have hjI:¬(j:Int)<(j:Int):=by omega
     have v0:IntKind.i64.wrap ((i:Int)+(j:Int))=(i:Int)+(j:Int):=by rw[IntKind.wrap_i64];omega
     go_wp2;go_loopw [7,9] (fun cv kv wr'=>∃(k:Nat) (c:Int) (T:List Int),i+j<=k/\k<=n+j+1/\kv=.int .i64 k/\cv=.int .i64 c/\0<=c/\c<65536/\Hid (T.length=n+j+1/\U16 T/\vd T+pd k*c=vd (xs.take (i+1))*vd ys/\Row wr' (w.heap.size+1+1+1) 3 .i64 T/\Below W.heap.size W wr')) (fun _ kv _=>n+j+1-(intOf kv).toNat)
     case atStart=>
      obtain⟨hl,hu,hv,hr,hg⟩:=HT.out;refine⟨i+j,c,T,Jr _,by omega,by go_num,rfl,hc0,hc1,hl,hu,?_,hr,hg⟩
      rw[hv,H.out.2.2.1,Jv (l:=ys) (by have:=HN.out;omega),aG,Int.add_mul,JG]
     case round=>
      obtain⟨k,c2,T2,hk1,hk2,rfl,rfl,hd0,hd1,HT2⟩:=hrel;by_cases hc:0<c2
      ·have hkL:k<n+j+1:=by
        rcases Ju k (n+j+1) with h|h
        ·exact h
        ·exfalso
         obtain⟨hl,hu,hv,hr,hg⟩:=HT2.out;have e1:=Cg (i:=n) (j:=j) (eH hXu (i+1)) hYu (by have:=HN.out;simp;omega) (by have:=HN.out;omega)
         have e2:pd (n+j)<=pd k:=dg (by omega)
         have e3:=aI hu;have e4:pd k*1<=pd k*c2:=Jx (by omega) (Int.le_of_lt (dp k))
         omega
       have hkI:(k:Int)<(n:Int)+(j:Int)+1:=by omega
       have g3:=HT2.out.2.2.2.1.cell k (by have:=HT2.out.1;omega)
       have g4:=HT2.out.2.2.2.1.frozen k;obtain⟨bt0,bt1⟩:=HT2.out.2.1 k;have q1:(c2+gx T2 k).tmod 65536=(c2+gx T2 k)%65536:=Int.tmod_eq_emod_of_nonneg (by omega)
       have q2:(c2+gx T2 k).tdiv 65536=(c2+gx T2 k)/65536:=JM (by omega)
       go_wp2;have hsW:=HWs.out;obtain⟨hl,hu,hv,hr,hg⟩:=HT2.out;refine⟨⟨k+1,_,T2.set k ((c2+gx T2 k)%65536),by omega,by omega,by go_num,rfl,by omega,by omega,by rw[List.length_set];exact hl,c5 hu _ (by omega),?_,hr.set k _,hg.setCell (by simp only;omega) _⟩,by simp[intOf];omega⟩
       rw[Dc T2 _ _ (by omega),bU,<-hv]
       have e:=jM (pd k) (c2+gx T2 k);simp only[JF,Int.mul_sub] at e ⊢
       omega
      ·obtain rfl:c2=0:=by omega
       go_wp2;obtain⟨hl,hu,hv,hr,hg⟩:=HT2.out;rw[JC,Int.add_zero] at hv
       refine⟨⟨i+1,T2,by omega,by go_num,hl,hu,hv,hr,hg⟩,by simp[intOf];omega⟩
  ·obtain rfl:i=n:=by omega
   have hltI:¬(i:Int)<(i:Int):=by omega
   have k0:=hXr.ca0;have k2:=hXr.cb0;clear hXr;go_wp2_with fail;obtain⟨hl,hu,hv,hr,hg⟩:=H.out;have hXe:=hX3.later hg;refine(bI (!(s==t)) (some ⟨w.heap.size+1+1+1,0,none⟩) (i+m+1) (i+m+1) D _ hl (Jr _) (by unfold maxLen;omega) hr.a8).mono ?_
   rintro e w4 ⟨rfl,hb4⟩;have HE:Hid (D.length=i+m+1/\vd D=vd (xs.take i)*vd ys):=⟨hl,hv⟩;clear hl hv k0 k1 k2 k3;obtain⟨c0',c1',f0,f1⟩:=cj hb4 hXe.cr0 hXe.cr1 hXe.fr0 hXe.fr1;go_wp2;have hsz:=hX3.size;have hsW:=HWs.out;refine bodyPost_ret (v:=.agg #[.bool (nsg (!(s==t)) D),.slice (some ⟨w.heap.size+1+1+1,0,none⟩) (ad D) (ad D)]) (by simp[results,Tryz.results65,go_sem,c0',c1']) rfl ?_
   refine ph hX3.below (r:=w.heap.size+1+1) (by omega) (by omega) hg hb4 hr.a8 (aY (by omega)) hu (by have:=HE.out.1;omega) (by omega) ?_
   have hv:=HE.out.2;rw[Jv (by have:=HN.out;omega)] at hv
   rw[aF,hv,aF,aF]
   cases s<;>cases t<;>simp[Int.neg_mul,Int.mul_neg]
variable {xs ys:List Int}
theorem GQ{t:Bool}(h:RN w s p n xs)(k:RN w t q m ys)(hn:n<=1000000)(hm:m<=1000000):
  Calls Tryz.prog 65 #[.agg #[.bool s,.slice p n n],.agg #[.bool t,.slice q m m]] w (j_ (n+m+1) (aF s xs*aF t ys) w):=
 EA s t p q n n m m xs ys w h.len k.len hn hm h.rd h.u k.rd k.u
end Go.Proofs.YtdjjlghlcffflaaGreatDoor
