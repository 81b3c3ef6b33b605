/- Own. -/
import Derived.Test.YtdjjlghlcffflaaGreatDoorEq
import Derived.Deep.Slices
import Derived.Laws.OwnMore
set_option linter.unusedVariables false
set_option linter.unusedSimpArgs false
set_option maxHeartbeats 8000000
set_option maxRecDepth 100000
namespace Go.Proofs.YtdjjlghlcffflaaGreatDoor
open Go.RowKit
def dvs(m:Int)(iv:Int->Int):Nat->List Int->Nat->List Int->Nat->List Int×Nat
 |0,A,na,_,_=>(A,na)
 |f+1,A,na,B,nb=>if nb=0 then (A,na) else
   dvs m iv f ((B.take nb).map (· * iv (gx B (nb-1))%m)) nb (bX m ((B.take nb).map (· * iv (gx B (nb-1))%m)) (nb-1) (na-(nb-1)) A)
    (ad ((bX m ((B.take nb).map (· * iv (gx B (nb-1))%m)) (nb-1) (na-(nb-1)) A).take (min (nb-1) na)))
variable {xs:List Int}
theorem Res.take{m:Int}(h:Res m xs)(n:Nat):Res m (xs.take n):=fun j=>by
 rcases Ju j n with hj|hj
 ·rw[bm _ _ _ hj];exact h j
 ·have h0:=h xs.length
  rw[ak xs xs.length (Jr _) _ (Jr _)] at h0
  rw[ak (xs.take n) n (by simp;omega) j hj]
  exact h0
section
variable {c:Int}
theorem Res.scaled{m:Int}(hm:2<=m):Res m (xs.map (· * c%m)):=fun j=>by
 rw[cE (· * c%m) (by simp)]
 exact⟨Int.emod_nonneg _ (by omega),JK _ (by omega)⟩
structure DV(B0:Nat)(wr:World)(m:Int)(ga na ca:Nat)(A:List Int)(gb nb cb:Nat)(B:List Int):Prop where
 ra:Row wr ga 128 .u64 A
 rb:Row wr gb 128 .u64 B
 ne:ga≠gb
 fa:B0<=ga
 fb:B0<=gb
 la:na<=A.length
 lb:nb<=B.length
 sa:Res m A
 sb:Res m B
theorem yo(B0:Nat)(m:Nat)(ga na ca:Nat)(A:List Int)(gb nb cb:Nat)(B:List Int)(w:World)(h:DV B0 w m ga na ca A gb nb cb B)(hB0:B0<=w.heap.size)(hca:na<=ca)(hcb:nb<=cb)(hca2:ca<=100000)(hcb2:cb<=100000)(hm:2<=m)(hm2:m<=2147483647)(F:Nat)(hF:nb<=F):
  Calls Tryz.prog 126 #[.int .u64 m,.slice (some ⟨ga,0,none⟩) na ca,.slice (some ⟨gb,0,none⟩) nb cb] w fun e w'=>∃g c D nd,dvs m (fun a=>a^(m-2)%m) F A na B nb=(D,nd)/\e=.returned (.slice (some ⟨g,0,none⟩) nd c)/\Row w' g 128 .u64 D/\Res m D/\nd<=D.length/\B0<=g/\Below B0 w w':=by
 generalize hiv:(fun a:Int=>a^(m-2)%(m:Int))=iv
 have hivb:∀a,0<=iv a/\iv a<m:=fun a=>by rw[<-hiv];exact⟨Int.emod_nonneg _ (by omega),JK _ (by omega)⟩
 have HIV:Hid (∀a:Int,a^(m-2)%(m:Int)=iv a):=fun a=>by rw[<-hiv]
 clear hiv;have HD:Hid (DV B0 w m ga na ca A gb nb cb B):=h;clear h;go_enter Tryz.func126,Tryz.ntmps126;go_wp2_with fail;go_loopw [1,2] (fun av bv wr=>∃(f ga' na' ca' gb' nb' cb':Nat) (A' B':List Int),av=.slice (some ⟨ga',0,none⟩) na' ca'/\bv=.slice (some ⟨gb',0,none⟩) nb' cb'/\nb'<=f/\na'<=ca'/\nb'<=cb'/\ca'<=100000/\cb'<=100000/\Hid (DV B0 wr m ga' na' ca' A' gb' nb' cb' B'/\dvs m iv f A' na' B' nb'=dvs m iv F A na B nb/\Below B0 w wr)) (fun _ bv _=>match bv with | .slice _ n _=>n|_=>0)
 case atStart=>exact⟨F,ga,na,ca,gb,nb,cb,A,B,rfl,rfl,hF,hca,hcb,hca2,hcb2,HD.out,rfl,Jt _ _⟩
 case round=>
  clear HD hca hcb hca2 hcb2;obtain⟨f,ga',na',ca',gb',nb',cb',A',B',rfl,rfl,hf,hca,hcb,hca2,hcb2,H⟩:=hrel;rcases Jw nb' with h0|h0
  ·subst h0
   obtain⟨hd,he,hb⟩:=H.out;have he':dvs m iv F A na B nb=(A',na'):=by
    rw[<-he]
    cases f with
    |zero=>rfl
    |succ f=>rw[dvs,if_pos rfl]
   have HE:Hid (DV B0 wr m ga' na' ca' A' gb' 0 cb' B'/\dvs m iv F A na B nb=(A',na')/\Below B0 w wr):=⟨hd,he',hb⟩;clear H hd he hb he';go_wp2;go_ret;obtain⟨hd,he,hb⟩:=HE.out;exact⟨ga',ca',A',na',he,rfl,hd.ra,hd.sa,hd.la,hd.fa,hb⟩
  ·have hp:(0:Int)<(nb':Int):=by omega
   obtain⟨hd,he,hb⟩:=H.out;obtain⟨f,rfl⟩:∃k,f=k+1:=⟨f-1,by omega⟩
   rw[dvs,if_neg (by omega)] at he
   have hc:=hd.rb.cell (nb'-1) (by have:=hd.lb;omega)
   obtain⟨x0,x1⟩:=hd.sb (nb'-1);have hi1:(nb':Int)-1=((nb'-1:Nat):Int):=by omega
   have hi2:((nb'-1:Nat):Int)<(nb':Int):=by omega
   have hi3:IntKind.i64.wrap ((nb'-1:Nat):Int)=((nb'-1:Nat):Int):=by rw[IntKind.wrap_i64];omega
   obtain⟨i0,i1⟩:=hivb (gx B' (nb'-1));have HI:Hid (DV B0 wr m ga' na' ca' A' gb' nb' cb' B'/\Below B0 w wr):=⟨hd,hb⟩;have HE:=(show Hid _ from he)
   clear H hd he hb;have hiv:=qj m (gx B' (nb'-1)) wr hm hm2 x0 x1;rw[HIV.out] at hiv
   go_wp2_with fail;refine hiv.mono ?_;rintro e w1 ⟨rfl,rfl⟩;clear hiv;have hd:=HI.out.1;go_wp2_with fail;refine(sV _ nb' cb' (B'.take nb') m (iv (gx B' (nb'-1))) _ (by have:=hd.lb;simp;omega) (by omega) (hd.rb.b5 nb') (hd.sb.take nb') (by omega) (by omega) i0 i1).mono ?_
   rintro e w1 ⟨rfl,hr1,hb1⟩;have hra:=hd.ra.below hb1 hd.ra.lt;have hlt:=hd.ra.lt;generalize hS:(B'.take nb').map (· * iv (gx B' (nb'-1))%(m:Int))=S at *
   have hSl:S.length=nb':=by rw[<-hS];have:=hd.lb;simp;omega
   have hSr:Res m S:=by rw[<-hS];exact Res.scaled (by omega)
   have HS:=(show Hid _ from hS)
   have HR:Hid (Row w1 wr.heap.size 128 .u64 S/\Row w1 ga' 128 .u64 A'/\Below wr.heap.size wr w1/\Res m S):=⟨hr1,hra,hb1,hSr⟩;clear hS hd hr1 hra hb1 hSr hc;have hrest:=EH ga' na' ca' A' (some ⟨wr.heap.size,0,none⟩) (nb'-1) nb' nb' S m w1 (by omega) HI.out.1.la hca (by omega) HR.out.2.1 HI.out.1.sa hSl (by omega) HR.out.1.a8 HR.out.2.2.2 (fun a ha=>by cases ha;exact Nat.ne_of_gt hlt) (by omega) (by omega)
   go_wp2_with fail;refine hrest.mono ?_;rintro e w2 ⟨rfl,hr2,hg2⟩;clear hrest;generalize hT:bX m S (nb'-1) (na'-(nb'-1)) A'=T at *
   have HT:=(show Hid _ from hT)
   have hTl:ad (T.take (min (nb'-1) na'))<=nb'-1:=JA (aj _) (by simp;omega)
   have hTl2:ad (T.take (min (nb'-1) na'))<=na':=JA (aj _) (by simp;omega)
   have HG:Hid (Row w2 ga' 128 .u64 T/\w1.grownBy w2 (some ga')):=⟨hr2,hg2⟩;generalize hN:ad (T.take (min (nb'-1) na'))=N at *
   have HN:=(show Hid _ from hN)
   clear hT hr2 hg2 hN;go_wp2;go_roundw
   case rel=>
    obtain⟨hd,hb⟩:=HI.out;obtain⟨r1,r2,r3,r4⟩:=HR.out;obtain⟨t1,t2⟩:=HG.out;have hsz:=hb.size;have hla:=hd.la;refine⟨f,wr.heap.size,nb',nb',ga',N,ca',S,T,rfl,rfl,by omega,Jr _,by omega,by omega,hca2,⟨r1.kept t2 (by simp;omega),t1,by omega,by omega,hd.fa,by omega,?_,r4,?_⟩,?_,?_⟩
    ·rw[<-HT.out,ix];omega
    ·rw[<-HT.out];exact Res.bX (by omega) _ hd.sa
    ·exact HE.out
    ·exact cQ (hb.trans (r3.mono (by omega))) t2 (by have:=r3.size;omega) hd.fa
   case measure=>show N<nb';omega
theorem zG(m:Int)(zs:List Int)(hm:2<=m):Res m (zs.map (· % m)):=fun j=>by
 rw[cE (· % m) (by simp)]
 exact⟨Int.emod_nonneg _ (by omega),JK _ (by omega)⟩
open Go.RowKit Go.Shelf
attribute [local go_sem] Oper.semAt_some
def Behind(zs:List Int)(j:Nat):Prop:=j=0\/∃i,j=i+1/\¬gx zs i=0
open Go.ChangeShapes Go.WideShapes Go.ChangeAt Go.RowKit Go.Joins
structure RZ(w:World)(p:Option Addr)(n nc:Nat)(hs:List Hdr):Prop where
 el:hs.length=n
 cap:n<=nc
 bnd:nc<=maxLen
 pn:p=none->nc=0
 hl:HL w p hs
 ev:∀j,j<n->∃es,PZ w (gh hs j).p (gh hs j).n (gh hs j).c es
variable {w w':World} {p:Option Addr} {n nc:Nat} {hs:List Hdr}
theorem RZ.below(h:RZ w p n nc hs)(hb:Below w.heap.size w w'):RZ w' p n nc hs:=
 ⟨h.el,h.cap,h.bnd,h.pn,h.hl.below hb,fun j hj=>let ⟨es,he⟩:=h.ev j hj;⟨es,he.below hb⟩⟩
variable {W:World} {fuel:Nat} {v:Value}
theorem Jf{H:Type}{enc:TypeId×Value->H}{x:DataW H×List MemPlace}(hf:DataW.trod enc Tryz.prog W 0 (fun _=>true) true fuel 25 [v]=some x):
  v=(dY v).val/\∃es,PZ W (dY v).p (dY v).n (dY v).c es:=by
 rcases Go.Deep.open_slice_pairs Tryz.underlying25 Tryz.underlying50 yT rfl rfl Bv yU hf with ⟨hcs,-⟩|⟨a,len,cap,m,k,V0,V1,D0,D1,P0,P1,hcs,-,hl,hm,hmm,-,hcell⟩
 ·simp only[List.cons.injEq,and_true] at hcs
  subst hcs;exact⟨rfl,[],rfl,Jr _,Jz _,fun _=>rfl,PL.nil,fun j hj=>absurd hj (Nat.not_lt_zero j)⟩
 ·simp only[List.cons.injEq,and_true] at hcs
  subst hcs;simp only[if_true] at hmm
  have hr:∀i,i<len->V0 i=.bool (dh (V0 i) (V1 i)).s/\V1 i=.slice (dh (V0 i) (V1 i)).p (dh (V0 i) (V1 i)).n (dh (V0 i) (V1 i)).c/\qH W (dh (V0 i) (V1 i)):=fun i hi=>by
   obtain⟨-,-,g0,g1⟩:=hcell i (by omega)
   exact xG g0 g1
  have hge:∀i,i<len->ge ((List.range len).map fun i=>dh (V0 i) (V1 i)) i=dh (V0 i) (V1 i):=fun i hi=>by simp[ge,hi]
  refine⟨rfl,(List.range len).map fun i=>dh (V0 i) (V1 i),by show _=len;simp,hl,hm,nofun,?_,fun j (hj:j<len)=>by rw[hge j hj];exact(hr j hj).2.2⟩
  intro hp;have hp':0<len:=by simpa using hp
  obtain⟨b,off,spot⟩:=a;have hspot:spot=none:=by simpa [Addr.add] using World.cell?_spot (hcell 0 (by omega)).1
  subst hspot;refine⟨b,off,rfl,fun j hj=>?_⟩
  have hj':j<len:=by simpa using hj
  obtain⟨c0,c1,-,-⟩:=hcell j (by omega)
  obtain⟨e0,e1,-⟩:=hr j hj';rw[hge j hj',<-e0,<-e1];rw[add_plain] at c0 c1
  exact⟨c0,c1⟩
theorem Ig:Tryz.prog.cellsOf 25=1:=by kernel_rfl
variable {t:TypeId}
theorem IV{H:Type}{enc:TypeId×Value->H}{e:TypeId}{x:DataW H×List MemPlace}(ht:Tryz.prog.underlying t=some (.slice e))(hc:Tryz.prog.cellsOf e=1)(hf:DataW.trod enc Tryz.prog W 0 (fun _=>true) true fuel t [v]=some x)
  {E:Hdr->Prop} (hE:∀(fuel:Nat) (u:Value) (y:DataW H×List MemPlace),DataW.trod enc Tryz.prog W 0 (fun _=>true) true fuel e [u]=some y->u=(dY u).val/\E (dY u)):
  v=(dY v).val/\(dY v).n<=(dY v).c/\(dY v).c<=maxLen/\((dY v).p=none->(dY v).c=0)/\∃hs:List Hdr,hs.length=(dY v).n/\HL W (dY v).p hs/\∀j,j<(dY v).n->E (gh hs j):=by
 rcases Go.Deep.open_slice1 ht hc hf with ⟨hcs,-⟩|⟨a,len,cap,m,n,V,D,Pl,hcs,-,hl,hm,hmm,-,hcell⟩
 ·simp only[List.cons.injEq,and_true] at hcs
  subst hcs;exact⟨rfl,Jr _,Jz _,fun _=>rfl,[],rfl,fun h=>absurd h (Nat.not_lt_zero 0),fun j hj=>absurd hj (Nat.not_lt_zero j)⟩
 ·simp only[List.cons.injEq,and_true] at hcs
  subst hcs;simp only[if_true] at hmm
  have hg:∀i,i<len->gh ((List.range len).map fun i=>dY (V i)) i=dY (V i):=fun i hi=>by simp[gh,hi]
  refine⟨rfl,hl,hm,nofun,(List.range len).map fun i=>dY (V i),by show _=len;simp,fun hp=>?_,fun j (hj:j<len)=>by rw[hg j hj];exact(hE _ _ _ (hcell j (by omega)).2).2⟩
  have hp':0<len:=by simpa using hp
  obtain⟨b,off,spot⟩:=a;have hspot:spot=none:=by simpa [Addr.add] using World.cell?_spot (hcell 0 (by omega)).1
  subst hspot;refine⟨b,off,rfl,fun j hj=>?_⟩
  have hj':j<len:=by simpa using hj
  obtain⟨c0,g0⟩:=hcell j (by omega)
  rw[hg j hj',<-(hE _ _ _ g0).1];rw[add_plain] at c0
  exact c0
theorem zh:(Tryz.prog.info? 25).map (fun i=>(i.zero,i.size,i.bytes))=some (some (.slice none 0 0),1,24):=by kernel_rfl
variable {E L m mc:Nat} {q:Option Addr} {fs:List Ent} {zs:List Int}
theorem Ij(h:PA w' L q m mc fs zs)(hm:m=min n E)(h1:aJ w.heap.size q)(h2:∀j,j<m->0<(ge fs j).n->aJ w.heap.size (ge fs j).p):EZ L E w' w.heap.size w'.heap.size zs ⟨q,m,mc⟩:=by
 refine⟨fs,h,by show m<=E;omega,fun a ha hn=>⟨h1 a ha,?_⟩,fun j hj hn a ha=>⟨h2 j hj hn a ha,(gA L).lt (h.ev j hj) hn a ha⟩⟩
 obtain⟨b,o,hp,hlt⟩:=h.pl.lt (by rw[h.el];exact hn)
 simp only at ha;rw[hp] at ha
 cases ha
 exact hlt
def CoP(n R E L:Nat)(w:World)(e:Ending)(w':World):Prop:=
 ∃h zss,e=.returned (Hdr.val h)/\h.n=min n R/\HR R (EZ L E) w' w.heap.size w'.heap.size zss h/\Below w.heap.size w w'
theorem Dg{hs0:List Hdr}(h:RZ w p n nc hs0)(R E L:Nat)(hR:R<=1000)(hE:E<=1000)(hL:L<=24):
  Calls Tryz.prog 9 #[.slice p n nc,.int .i64 R,.int .i64 E,.int .i64 L] w (CoP n (R+1) E L w):=by
 obtain⟨i0,hi,hzz⟩:=Option.map_eq_some_iff.1 zh;simp only[Prod.mk.injEq] at hzz
 obtain⟨hz0,hz1,hz2⟩:=hzz;have HI:Hid (Tryz.prog.info? 25=some i0/\i0.zero=some (.slice none 0 0)/\i0.size=1/\i0.bytes=24):=⟨hi,hz0,hz1,hz2⟩;clear hi hz0 hz1 hz2;have HX:Hid (RZ w p n nc hs0):=h;have hnm:n<=9223372036854775807:=by have h1:=h.cap;have h2:=h.bnd;unfold maxLen at h2;omega
 clear h;go_enter Tryz.func9,Tryz.ntmps9;go_wp2_with fail;go_loopw [9,10] (fun rv jv wq=>∃(j:Nat) (rs:List Hdr) (zss:List (List Int)),j<=min n (R+1)/\jv=.int .i64 j/\Hid (rs.length=j/\LH w.heap.size 25 (EZ L E) wq rv rs zss/\Below w.heap.size w wq)) (fun _ jv _=>min n (R+1)-(intOf jv).toNat)
 case atStart=>exact⟨0,[],[],Jz _,by go_num,rfl,LH.nil _ _ _ _,Jt _ _⟩
 case round=>
  obtain⟨j,rs,zss,hj,rfl,G⟩:=hrel;rcases Ju j (min n (R+1)) with hlt1|hge1
  ·obtain⟨gel,gLH,gB⟩:=G.out
   have hN:=HX.out.below gB;obtain⟨b1,o1,hp1,hc1⟩:=hN.hl (by rw[hN.el];omega)
   subst hp1;have c1:=hc1 j (by rw[hN.el];omega)
   obtain⟨es2,hP2⟩:=hN.ev j (by omega)
   generalize gh hs0 j=hd2 at c1 hP2
   obtain⟨p2,n2,nc2⟩:=hd2;simp only[Hdr.val] at c1 hP2
   have j1:(j:Int)<(n:Int):=by omega
   have j2:(j:Int)<=(R:Int):=by omega
   clear gel gLH gB hc1 hN;go_wp2_with fail;go_fit (vQ hP2 E L hE hL);rintro e w1 ⟨q,m,mc,fs,zs,rfl,hPA,hm,hF1,hF2,hb1⟩;have HE:Hid (EZ L E w1 wr.heap.size w1.heap.size zs ⟨q,m,mc⟩):=Ij hPA hm hF1 hF2;have hown0:=cD G.out.2.1.own hb1;rw[G.out.1] at hown0
   have HO:Hid (w1.ownsRow w.heap.size 25 1 u9 j (rs.map Hdr.val)):=hown0;have hsz:w.heap.size<=w1.heap.size:=JA G.out.2.2.size hb1.size;obtain⟨hi,hz0,hz1,hz2⟩:=HI.out;clear hown0 hPA hm hF1 hF2 c1 hP2;go_wp2_with (refine wpList_append_lies _ rfl _ _ 23 rfl w.heap.size 25 i0 (.slice none 0 0) 1 24 Tryz.underlying23 hi hz0 hz1 hz2 rfl (by decide) u9 j (rs.map Hdr.val) rfl (HO.out.alloc _) ⟨w1.heap.size,0,none⟩ 1 1 [.slice q m mc] rfl rfl ?_ (fun x hx=>by simp at hx;subst hx;rfl) (by decide) (by unfold maxLen;omega) (by omega) (by simp;omega) _ rfl ?_;exact World.news_of_block (heap_alloc_new w1 _);intro g cap w3 hown3 hgrow3 hat3 hlt3;have hB3:Below w.heap.size w w3:=((ae G.out.2.2 hb1).alloc hsz _).grown hgrow3 (by simp;omega) (fun q hq=>(HO.out.lt q hq).1);have HA:Hid (LH w.heap.size 25 (EZ L E) w3 (.slice (some ⟨g,0,none⟩) (j+1) cap) (rs++[⟨q,m,mc⟩]) (zss++[zs])):=LH.app (df L E) G.out.1 G.out.2.1 hb1 HE.out (Jr _) (Jr _) G.out.2.2.size hown3 hgrow3 hat3;clear hown3 hgrow3 hat3)
   refine⟨⟨j+1,rs++[⟨q,m,mc⟩],zss++[zs],by omega,by go_num,by have:=G.out.1;simp;omega,HA.out,hB3⟩,by simp[intOf];omega⟩
  ·obtain⟨gel,gLH,gB⟩:=G.out
   obtain⟨q,cap,hv,hRow⟩:=gLH.row (df L E) (D:=R+1) (by omega)
   subst hv;rw[gel] at hRow ⊢
   have HR':Hid (CoP n (R+1) E L w (.returned (.slice q j cap)) wr):=⟨⟨q,j,cap⟩,zss,rfl,by show j=_;omega,⟨rs,hRow⟩,gB⟩
   have hcs:Hid (¬j<n\/(j<n/\¬j<=R)):=by show _\/_;omega
   clear gLH gB hRow G gel;rcases hcs.out with h1|⟨h1,h2⟩
   ·have i1:¬(j:Int)<(n:Int):=by omega
    clear h1;go_wp2;go_ret;exact HR'.out
   ·have i1:(j:Int)<(n:Int):=by omega
    have i2:¬(j:Int)<=(R:Int):=by omega
    clear h1 h2;go_wp2;go_ret;exact HR'.out
structure LB{α:Type}(E:World->Nat->Nat->α->Hdr->Prop):Prop where
 go:∀(w w':World) (B T:Nat) (z:α) (h:Hdr),E w B T z h->T<=w.heap.size->(∀b,B<=b->b<T->w'.heap[b]?=w.heap[b]?)->E w' B T z h
section
variable {α:Type} {E:World->Nat->Nat->α->Hdr->Prop} {lo:Nat} {X Y:Nat->Prop} {w w':World} {z:α} {h:Hdr}
end
section
variable {K lo:Nat} {X Y:Nat->Prop} {w w':World} {y:Int} {u:Ent}
end
def One(w:World)(b o:Nat)(u:Ent):Prop:=w.cell? ⟨b,o,none⟩=some (.bool u.s)/\w.cell? ⟨b,o+1,none⟩=some (.slice u.p u.n u.c)
section
variable {w v:World} {lo:Nat} {X:Nat->Prop}
end
variable {B K:Nat} {z:Int} {e:Ent}
theorem NV.same{V V':World}(h:NV B V K z e)(hs:V.heap.size<=V'.heap.size)(hb:0<e.n->∀a,e.p=some a->V'.heap[a.block]?=V.heap[a.block]?):NV B V' K z e:=by
 obtain⟨xs,k,h2⟩:=h;rcases Jw e.n with h0|h0
 ·have hp:=k.pn h0
  refine⟨xs,⟨k.len,fun hx=>?_,k.u,k.nrm,k.sg,k.pn,k.v,k.fr,fun a ha=>?_⟩,h2⟩
  ·rw[k.len] at hx
   omega
  ·rw[hp] at ha
   cases ha
 ·refine⟨xs,⟨k.len,k.rd.same fun a ha _=>hb h0 a ha,k.u,k.nrm,k.sg,k.pn,k.v,k.fr,fun a ha=>⟨JE (k.fz a ha).1 hs,fun i=>?_⟩⟩,h2⟩
  have h4:=(k.fz a ha).2 i;have h3:=hb h0 a ha;simp only[World.frozen?] at h4 ⊢
  rw[h3];exact h4
variable {g:Nat}
theorem NV.offc{V:World}(h:NV B V K z e)(hc:∀(o:Nat) (y:Int),V.cell? ⟨g,o,none⟩≠some (.int .u32 y)):0<e.n->∀a,e.p=some a->a.block≠g:=fun hn a ha hg=>by
 obtain⟨xs,k,h2⟩:=h;have hx:0<xs.length:=by rw[k.len];exact hn
 obtain⟨b,o,hp,hcl⟩:=k.rd hx;rw[hp] at ha
 cases ha
 simp only at hg;subst hg
 exact hc _ _ (hcl 0 hx)
variable {o:Nat}
theorem NV.uj{V:World}(h:NV B V K z e)(v:Value)(hc:∀(o:Nat) (y:Int),V.cell? ⟨g,o,none⟩≠some (.int .u32 y)):NV B (V.setCell ⟨g,o,none⟩ v) K z e:=
 h.same (by simp[World.setCell]) fun hn a ha=>heap_setCell_other V ⟨g,o,none⟩ a.block v (h.offc hc hn a ha)
section
variable {w:World} {gq gr go gp ga:Nat} {e:Ent} {q:Int} {L K m k i j:Nat} {xs:List Int} {up:Ent} {es:List Ent} {V:World}
end
attribute [local go_sem] Oper.semAt_some
variable {es:List Ent}
theorem C8(h:PA w K p n nc es zs)(hn:n<=1000000)(hK:K<=1000):
  Calls Tryz.prog 36 #[.slice p n nc] w fun r w'=>∃f:Ent,r=.returned (.agg #[.bool f.s,.slice f.p f.n f.c])/\NV w.heap.size w' K (gx zs (ad zs-1)) f/\Below w.heap.size w w':=by
 have htl:=aj zs;have hzl:=h.zl;have hel:=h.el;have hal:=ag (o:=.cells #[.bool false,.slice none 0 0] 50) (Jt w.heap.size w);have hR0:Bx (w.alloc (.cells #[.bool false,.slice none 0 0] 50)) w.heap.size (.bool false) (.slice none 0 0):=Bx.new _ _ _ rfl;go_enter Tryz.func36,Tryz.ntmps36;go_wp2_with fail;generalize w.alloc (.cells #[.bool false,.slice none 0 0] 50)=w0 at *
 refine(cN K p n nc es zs _ (h.below hal) hn).mono ?_;rintro e w1 ⟨rfl,hb1⟩;have hb:=ae hal hb1;have hR1:=hR0.later hb1;obtain⟨r0,r1,f0,f1⟩:=hR1;have h1:=h.below hb;by_cases h0:ad zs=0
 ·have HZ:Hid (gx zs (ad zs-1)=0):=az zs _ (by omega)
  rw[h0];clear h0 htl;go_wp2;refine bodyPost_ret (v:=.agg #[.bool false,.slice none 0 0]) (by simp[results,Tryz.results36,go_sem,r0,r1]) rfl ⟨ez,rfl,?_,cF (cF hb (Jr _)) (Jr _)⟩
  rw[HZ.out];exact NV.ez _ _ K
 ·obtain⟨b,o,hp,hc⟩:=h1.pl (by omega)
  obtain⟨j,hj⟩:∃j,ad zs=j+1:=⟨ad zs-1,by omega⟩
  obtain⟨c0,c1⟩:=hc j (by omega)
  have hv:=h1.ev j (by omega)
  have sb:b<w1.heap.size:=block_lt_of_cell c0;have e1:ad zs-1=j:=by omega
  subst hp;have HE:Hid (ad zs-1=j):=e1;clear hc h1 h e1;rw[hj];have HJ:Hid (ad zs=j+1):=hj;have hj1:j+1<=n:=by omega
  clear hj h0 htl;have g1:(((j+1:Nat):Int)==0)=false:=by rw[beq_eq_false_iff_ne];omega
  have v1:((j+1:Nat):Int)-1=(j:Int):=by omega
  have v2:IntKind.i64.wrap (j:Int)=(j:Int):=by rw[IntKind.wrap_i64];omega
  go_wp2_with fail;refine(zz hv hK).mono ?_;rintro e w2 ⟨f,rfl,hf,hb2⟩;have hb3:=ae hb hb2;have hs:=hb.size;have hlt:w.heap.size<w1.heap.size:=block_lt_of_cell r0;obtain⟨s0,s1,t0,t1⟩:=(hR0.later hb1).later hb2;clear hb1 hb2 hv c0 c1 r0 r1 f0 f1 hR0 hal;go_wp2;refine bodyPost_ret (v:=.agg #[.bool f.s,.slice f.p f.n f.c]) (by simp[results,Tryz.results36,go_sem,s0,s1]) rfl ⟨f,rfl,?_,cF (cF hb3 (Jr _)) (Jr _)⟩
  rw[HE.out];exact(nQ hf.frm hlt (nQ hf.frm hlt hf)).mono hs
structure SR(B:Nat)(wr:World)(g M n:Nat)(us:List Ent)(F:Nat->Int):Prop where
 row:bA wr g 50 us
 len:us.length=n
 ev:∀t,t<n->NV B wr M (F t) (ge us t)/\(0<(ge us t).n->Off g (ge us t).p)
variable {wr:World} {M:Nat} {us:List Ent}
theorem SR.set{F G:Nat->Int}(h:SR B wr g M n us F)(t:Nat)(e:Ent)(ht:t<n)(hv:NV B wr M (G t) e)(ho:0<e.n->Off g e.p)(hG:∀s,s<n->s≠t->G s=F s):
  SR B ((wr.setCell ⟨g,t*2,none⟩ (.bool e.s)).setCell ⟨g,t*2+1,none⟩ (.slice e.p e.n e.c)) g M n (us.set t e) G:=by
 have hl:=h.len;refine⟨h.row.set t e (by omega),by simpa using hl,fun s hs=>?_⟩
 by_cases he:s=t
 ·subst he
  rw[cR _ _ _ (by omega)]
  exact⟨hv.nw ho,ho⟩
 ·rw[cG _ _ _ _ he,hG s hs he]
  exact⟨(h.ev s hs).1.nw (h.ev s hs).2,(h.ev s hs).2⟩
def PrC(zs:List Int)(N:Nat)(w:World)(e:Ending)(w':World):Prop:=
 ∃p n nc es,e=.returned (.slice p n nc)/\PR w' N p n nc es zs/\Below w.heap.size w w'
variable {N:Nat}
end
variable {w w':World} {p:Option Addr} {n nc:Nat} {hs:List Hdr}
variable {W:World} {fuel:Nat} {v:Value}
variable {t:TypeId}
variable {E L m mc:Nat} {q:Option Addr} {fs:List Ent} {zs:List Int}
variable {B K:Nat} {z:Int} {e:Ent}
variable {g:Nat}
variable {o:Nat}
variable {es:List Ent}
variable {wr:World} {M:Nat} {us:List Ent}
variable {N:Nat}
theorem PrP.c{e:Ending}(h:PrP zs N w e w')(hz:∀t,((gx zs t).natAbs:Int)<pw M):PrC zs (2*M) w e w':=by
 obtain⟨p,n,es,a,b,-,-,c⟩:=h;exact⟨p,n,n,es,a,b.tight hz,c⟩
variable {c:Int}
section
variable {w wr w':World} {g3 g7 g8 g9 g10 W n i M:Nat} {u one base cr:Ent} {xs:List Int} {d:Nat->Int} {us:List Ent} {c:Int}
end
theorem CZ(p q:Option Addr)(n nc m mc:Nat)(xs ys:List Int)(w:World)(hn:xs.length=n)(hm:ys.length=m)(hmn:m<=n)(hnb:n<=1000000000)
  (hX:Rd w p .u32 xs) (hXu:U32 xs) (hY:Rd w q .u32 ys) (hYu:U32 ys):
  Calls Tryz.prog 148 #[.slice p n nc,.slice q m mc] w fun e w'=>∃zs,e=.returned (.slice (some ⟨w.heap.size,0,none⟩) (n+1) (n+1))/\zs.length=n+1/\U32 zs/\val zs=val xs+val ys/\
   Row w' w.heap.size 97 .u32 zs/\Below w.heap.size w w':=by
 have hl':¬(n:Int)<m:=by omega
 have hmx:max (n:Int) (m:Int)=(n:Int):=by omega
 have hmk:=jB (n+1) (by omega)
 have ec:((n+1:Nat):Int)=(n:Int)+1:=by omega
 rw[ec] at hmk
 clear ec;have hcp:=fun ty=>mH ty w p n nc (n+1) xs hX hn (by omega)
 have hlen:(xs++au 1).length=n+1:=by simp[au];omega
 go_enter Tryz.func148,Tryz.ntmps148;go_wp2_with fail;refine(gK w.heap.size 0 (n+1) (n+1) (xs++au 1) q m mc ys _ (by omega) (by omega) (Jr _) (Row.new w _ _ _) (aO hXu (eR _)) hm (by omega) (hY.alloc _) hYu (fun h=>hY.off (Jr _) (by omega))).mono ?_
 rintro e w' ⟨c,new,rfl,h1,h2,h3,h4,h5,h6,h7⟩;go_wp2;go_ret;have hs:=uo xs ys new n m (n+1) c hn hm (by omega) (by omega) hXu hYu h2 h1 h3 h4 (by
  rw[h5,List.drop_zero,Jv (by omega),bq,val_zero,JC,Int.add_zero])
 refine⟨new,rfl,h1,h2,hs,?_,?_⟩
 ·rw[List.take_zero,List.nil_append,Nat.zero_add,JL (by omega),List.append_nil] at h6
  exact h6
 ·exact cQ ((Jt _ _).alloc (Jr _) _) h7 (by simp) (Jr _)
variable {off:Nat}
theorem mn{b:Nat}{k:IntKind}(h:Rd w (some ⟨b,off,none⟩) k xs)(j:Nat):Rd w (some ⟨b,off+j,none⟩) k (xs.drop j):=fun hx=>by
 have hl:j<xs.length:=by simp at hx;omega
 obtain⟨b',off',e,hc⟩:=h (by omega)
 cases e
 refine⟨b,off+j,rfl,fun i hi=>?_⟩
 have:=hc (j+i) (by simp at hi;omega)
 rw[bC,Nat.add_assoc];exact this
theorem jz(Z R:List Int)(o j:Nat)(h:o+R.length<=Z.length):gx (mid Z o R) j=if o<=j/\j<o+R.length then gx R (j-o) else gx Z j:=by
 by_cases hc:o<=j/\j<o+R.length
 ·rw[if_pos hc]
  have:=Ce Z R o (j-o) h (by omega)
  rwa [show o+(j-o)=j by omega] at this
 ·rw[if_neg hc]
  rcases Ju j o with h1|h1
  ·unfold mid
   rw[List.append_assoc,cz _ _ _ (by simp;omega),bm _ _ _ h1]
  ·exact CO Z R o j h (by omega)
theorem zn(Z RR new:List Int)(o h:Nat)(ho:o+RR.length<=Z.length)(hn:h+new.length=RR.length):mid (mid Z o RR) (o+h) new=mid Z o (RR.take h++new):=by
 have l1:=b6 Z RR o ho;have l2:(RR.take h++new).length=RR.length:=by simp;omega
 refine dm _ _ (by rw[b6 _ _ _ (by rw[l1];omega),l1,b6 _ _ _ (by rw[l2];omega)]) fun j hj=>?_
 rw[jz _ _ _ _ (by rw[l1];omega),jz _ _ _ _ ho,jz _ _ _ _ (by rw[l2];omega),l2]
 by_cases h1:o+h<=j/\j<o+h+new.length
 ·rw[if_pos h1,if_pos (by omega),cf _ _ _ (by simp;omega)]
  congr 1;simp;omega
 ·rw[if_neg h1]
  by_cases h2:o<=j/\j<o+RR.length
  ·rw[if_pos h2,if_pos (by omega),cz _ _ _ (by simp;omega),bm _ _ _ (by omega)]
  ·rw[if_neg h2,if_neg (by omega)]
variable {P:Int}
theorem kara{xl xh yl yh md:Int}(h:md+xl*yl+xh*yh=(xl+xh)*(yl+yh)):xl*yl+P*P*(xh*yh)+P*md=(xl+P*xh)*(yl+P*yh):=by
 have e:md=xl*yh+xh*yl:=by grind
 rw[e];grind
theorem nK(Z RR:List Int)(o h m:Nat)(ho:o+RR.length<=Z.length)(hm:h+m=RR.length):((mid Z o RR).drop (o+h)).take m=RR.drop h:=by
 have l1:=b6 Z RR o ho;refine dm _ _ (by simp[l1];omega) fun j hj=>?_
 have hj':j<m:=by simp at hj;omega
 rw[bm _ _ _ hj',bC,bC,jz _ _ _ _ ho,if_pos (by omega)]
 congr 1;omega
theorem wY{a b:Int}(h:a+P*c=b)(ha:0<=a)(hb:b<P)(hc0:0<=c)(hc1:c<=1):c=0:=by
 rcases(show c=0\/c=1 by omega) with e|e
 ·exact e
 ·subst e;omega
variable {d:Int}
theorem zr{a b:Int}(h:a+b=d+P*c)(ha:a<P)(hd:b<=d)(hc0:0<=c)(hc1:c<=1):c=0:=by
 rcases(show c=0\/c=1 by omega) with e|e
 ·exact e
 ·subst e;omega
variable {Z R:List Int} {j:Nat}
theorem oK{e:TypeId}(h:Row w g e .u32 (mid Z o R))(ho:o+R.length<=Z.length)(hm:j+m<=R.length):Rd w (some ⟨g,o+j,none⟩) .u32 ((R.drop j).take m):=fun hx=>by
 refine⟨g,o+j,rfl,fun i hi=>?_⟩
 have hi':i<m:=by simp at hi;omega
 have:=h.gC ho (j+i) (by omega)
 rw[bm _ _ _ hi',bC,Nat.add_assoc];exact this
theorem Ed(Z R1 R2:List Int)(o:Nat)(h:o+(R1.length+R2.length)<=Z.length):mid (mid Z o R1) (o+R1.length) R2=mid Z o (R1++R2):=by
 have l1:=b6 Z R1 o (by omega)
 refine dm _ _ (by rw[b6 _ _ _ (by rw[l1];omega),l1,b6 _ _ _ (by simp;omega)]) fun j hj=>?_
 rw[jz _ _ _ _ (by rw[l1];omega),jz _ _ _ _ (by omega),jz _ _ _ _ (by simp;omega),List.length_append]
 by_cases h1:o+R1.length<=j/\j<o+R1.length+R2.length
 ·rw[if_pos h1,if_pos (by omega),cf _ _ _ (by omega)]
  congr 1;omega
 ·rw[if_neg h1]
  by_cases h2:o<=j/\j<o+R1.length
  ·rw[if_pos h2,if_pos (by omega),cz _ _ _ (by omega)]
  ·rw[if_neg h2,if_neg (by omega)]
theorem uw(hZ:U32 Z)(hR:U32 R):U32 (mid Z o R):=aO (aO (an hZ _) hR) (cd hZ _)
end Go.Proofs.YtdjjlghlcffflaaGreatDoor
