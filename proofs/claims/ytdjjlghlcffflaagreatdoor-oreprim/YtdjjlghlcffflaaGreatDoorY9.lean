/- Own. -/
import Derived.Test.YtdjjlghlcffflaaGreatDoorY8
set_option linter.unusedVariables false
set_option linter.unusedSimpArgs false
set_option maxHeartbeats 8000000
set_option maxRecDepth 100000
namespace Go.Proofs.YtdjjlghlcffflaaGreatDoor
open Go.RowKit
variable {w w':World}
theorem TzT.below(h:TzT w)(hb:Below w.heap.size w w'):TzT w':=fun j hj=>cell_later hb (h j hj)
variable {K L n nc:Nat} {p:Option Addr} {es:List Ent} {zs:List Int}
theorem PA.up9(P:PA w K p n nc es zs)(h:K<=L):PA w L p n nc es zs:=
 ⟨P.el,P.zl,P.cap,P.bnd,P.pn,P.pl,fun i hi=>by obtain⟨xs,a,b,c⟩:=P.ev i hi;exact⟨xs,a,b,by omega⟩⟩
structure FA(lo:Nat)(w:World)(g gE n0:Nat)(u:Ent)(es:List Ent)(l:List Nat)(e:Nat->Int):Prop where
 im:eK w g (some ⟨gE,0,none⟩) n0 u
 row:bA w gE 50 es
 el:es.length=n0
 mo:NV 0 w 70 ((Cp.aH l:Nat):Int) u
 ev:∀j,j<n0->NV 0 w 70 (e j) (ge es j)
 g1:lo<=g
 g2:lo<=gE
 ne:g≠gE
variable {lo g gE n0:Nat}
theorem FA.later{u:Ent}{l:List Nat}{e:Nat->Int}(h:FA lo w g gE n0 u es l e)(hb:Below w.heap.size w w'):FA lo w' g gE n0 u es l e:=
 ⟨h.im.below hb h.im.lt,h.row.below hb h.row.lt,h.el,h.mo.below hb,fun j hj=>(h.ev j hj).below hb,h.g1,h.g2,h.ne⟩
def FV(lo:Nat)(w:World)(fv:Value)(n0:Nat)(l:List Nat)(e:Nat->Int):Prop:=(fv=.pointer none)\/∃(g gE:Nat) (u:Ent) (es:List Ent),fv=.pointer (some ⟨g,0,none⟩)/\FA lo w g gE n0 u es l e
theorem FV.later{fv:Value}{l:List Nat}{e:Nat->Int}(h:FV lo w fv n0 l e)(hb:Below w.heap.size w w'):FV lo w' fv n0 l e:=by
 rcases h with h|⟨g,gE,u,es,h1,h2⟩
 ·exact .inl h
 ·exact .inr ⟨g,gE,u,es,h1,h2.later hb⟩
variable {B C m:Nat} {q:Option Addr} {fs:List Ent} {ys H a b:List Int}
theorem nL{R u:Int}{bW:Nat}(h:PN B w 5 p n es zs)(hb:PN C w 5 q m fs ys)(hm1:1<=m)(hmn:m<=n)(hn:n<=12)
  (G:Md.GG zs ys H a b) (hA:Gs.Prm zs) (hB:Gs.Prm ys) (hy0:0<gx ys (m-1)) (hHm:H.length<=m) (hR:R≠0) (hRb:R.natAbs<=2^Md.rb) (hbz:∀I,Md.Idl 0 I->I (gx a)->I (gx b)->I (Md.cst R)) (hu:((Int.gcd (gx zs (n-1)) (gx ys (m-1)):Nat):Int)=gx H (H.length-1)*u) (hbW:bW<389) (hW:∀t,(u*gx H t).natAbs<=2^bW) (hT:TzT w):
  Calls Tryz.prog 72 #[.slice p n n,.slice q m m] w fun r w'=>∃(p':Option Addr) (k:Nat) (es':List Ent),r=.returned (.slice p' k k)/\PA w' 70 p' k k es' H/\Below w.heap.size w w':=by
 obtain⟨i,hi⟩:∃i:Nat,i=n-1:=⟨_,rfl⟩;obtain⟨j,hj⟩:∃j:Nat,j=m-1:=⟨_,rfl⟩;obtain⟨c1,o1,hp,hc⟩:=h.pl (by rw[h.el];omega)
 obtain⟨x0,x1⟩:=hc i (by rw[h.el];omega)
 obtain⟨c2,o2,hq,hd⟩:=hb.pl (by rw[hb.el];omega)
 obtain⟨d0,d1⟩:=hd j (by rw[hb.el];omega)
 subst hp hq;have hx:=(h.ev i (by omega)).ev (by omega)
 have hy:=(hb.ev j (by omega)).ev (by omega)
 obtain⟨ld,hld⟩:∃ld:Int,((Int.gcd (gx zs i) (gx ys j):Nat):Int)=ld:=⟨_,rfl⟩;have HLD:=(show Hid _ from hld)
 have hld0:ld≠0/\ld.natAbs<=2^160:=by
  have hyj:gx ys j≠0:=by rw[hj];omega
  have h1:Int.gcd (gx zs i) (gx ys j)<=(gx ys j).natAbs:=Nat.le_of_dvd (by omega) (Int.gcd_dvd_natAbs_right _ _)
  have h2:Int.gcd (gx zs i) (gx ys j)≠0:=fun h0=>hyj (Int.gcd_eq_zero_iff.1 h0).2
  have h3:=hy.bd;have h4:pw 5=((2^160:Nat):Int):=by decide
  rw[h4] at h3
  rw[<-hld];omega
 have HU:Hid (ld=gx H (H.length-1)*u):=by
  show _=_
  rw[<-hld,hi,hj];exact hu
 have hlg:c1<w.heap.size:=block_lt_of_cell x0;have hlb:c2<w.heap.size:=block_lt_of_cell d0;have i1:(n:Int)-1=(i:Int):=by omega
 have i2:(i:Int)<(n:Int):=by omega
 have i3:IntKind.i64.wrap (i:Int)=(i:Int):=by rw[IntKind.wrap_i64];omega
 have j1:(m:Int)-1=(j:Int):=by omega
 have j2:(j:Int)<(m:Int):=by omega
 have j3:IntKind.i64.wrap (j:Int)=(j:Int):=by rw[IntKind.wrap_i64];omega
 have HP:Hid (PN B w 5 (some ⟨c1,o1,none⟩) n es zs/\PN C w 5 (some ⟨c2,o2,none⟩) m fs ys):=⟨h,hb⟩;have HG:Hid (Md.GG zs ys H a b/\Gs.Prm zs/\Gs.Prm ys/\R≠0/\R.natAbs<=2^Md.rb/\(∀I,Md.Idl 0 I->I (gx a)->I (gx b)->I (Md.cst R))/\(∀t,(u*gx H t).natAbs<=2^bW)/\ld≠0/\ld.natAbs<=2^160/\0<gx ys (m-1)/\H.length<=m):=⟨G,hA,hB,hR,hRb,hbz,hW,hld0.1,hld0.2,hy0,hHm⟩;have HTZ:Hid (TzT w):=hT;have lm:m<=12:=by omega
 clear h hb hc hd hi hj hld hld0 hy0 hHm hu hW hbz hRb hR hA hB G hT;go_enter Tryz.func72,Tryz.ntmps72;go_wp2_with fail;go_cut [5] (fun lv wc=>∃(ul:Ent) (g1:Nat),lv=.pointer (some ⟨g1,0,none⟩)/\Hid (Bx wc g1 (.bool ul.s) (.slice ul.p ul.n ul.c)/\NV w.heap.size wc 150 ld ul/\w.heap.size<=g1/\Below w.heap.size w wc))
 case first=>
  go_region_held3 (fun w'=>w'.cell? ⟨c1,o1+i*2,none⟩=some (.bool (ge es i).s)/\w'.cell? ⟨c1,o1+i*2+1,none⟩=some (.slice (ge es i).p (ge es i).n (ge es i).c)/\w'.cell? ⟨c2,o2+j*2,none⟩=some (.bool (ge fs j).s)/\w'.cell? ⟨c2,o2+j*2+1,none⟩=some (.slice (ge fs j).p (ge fs j).n (ge fs j).c)) (first|with_reducible exact⟨x0,x1,d0,d1⟩|(refine B8 ⟨x0,x1,d0,d1⟩ hlg hlb ?_;(repeat (first|(with_reducible exact hW1)|(with_reducible exact Jt _ _)|(refine jr ?_ (Jr _))|(refine cF ?_ ?_)|(refine Below.drew ?_)));all_goals ((try simp only[Js]);(try dsimp only);omega)))
   ((go_at_call 74;go_fit (lJ (hx.below (by first|exact(Jt _ _).drew|exact(ag (Jt _ _)).drew)) (hy.below (by first|exact(Jt _ _).drew|exact(ag (Jt _ _)).drew)) (by omega) (by omega));rintro r v1 ⟨u,rfl,hN1',hb1⟩;have hN1:=Fa hN1';clear hN1';have hB1:=aQ hb1;have hW1:=comp (X2:=w) (w2:=w) (Jt _ _) (by(repeat apply ag);exact Jt _ _) hB1;obtain⟨hc2,hf2,hz2,-,-⟩:=lM hB1;obtain⟨e1,e2,e3,e4⟩:=bne hB1;have t1:=hW1.size;have t1b:=hB1.size))
  all_goals (go_wp2_with fail;go_meet)
  all_goals
   rw[HLD.out] at hN1
   refine⟨u,_,rfl,?_,?_,?_,?_⟩
   ·(repeat (first|exact lI (by simp;done)|refine eg (u:=.bool false) (v:=.slice none 0 0) ?_|refine dO ?_ (by have h1:=t1;have h2:=t1b;(try simp only[Js] at h1 h2);(try simp only[Js]);(try dsimp only);omega)|apply mE));all_goals exact⟨by simp[go_sem, *],by simp[go_sem, *],by simp[go_sem, *],by simp[go_sem, *]⟩
   ·(repeat (first|apply zY|refine nQ hN1.frm (by have h1:=t1;have h2:=t1b;(try simp only[Js] at h1 h2);(try simp only[Js]);(try dsimp only);omega) ?_|refine vR hN1.ltb (by have h1:=t1;have h2:=t1b;(try simp only[Js] at h1 h2);(try simp only[Js]);(try dsimp only);omega) ?_));exact hN1.mono (by have h1:=t1;have h2:=t1b;(try simp only[Js] at h1 h2);(try simp only[Js]);(try dsimp only);omega)
   ·have h1:=t1;have h2:=t1b;(try simp only[Js] at h1 h2);(try simp only[Js]);(try dsimp only);omega
   ·(repeat (first|exact hW1|refine jr ?_ (Jr _)|refine cF ?_ (by have h1:=t1;have h2:=t1b;(try simp only[Js] at h1 h2);(try simp only[Js]);(try dsimp only);omega)))
 case rest=>
  obtain⟨ul,g1,rfl,HL⟩:=hcut;obtain⟨w0,hw0⟩:∃w0,w0=wc:=⟨_,rfl⟩;subst hw0;clear x0 x1 d0 d1 hx hy;have e0:(2147483647:Int)=((Cp.chain.getD 0 0:Nat):Int):=by decide
  have H0:Hid (Md.ImS 0 H u R ld (m+1) [] (fun _=>0)):=Md.ImS.start H u R ld (by have:=HG.out.2.2.2.2.2.2.2.2.2.2;omega)
  go_wp2_with fail;rw[e0];clear e0;have HW:Hid (Below w.heap.size w w0):=HL.out.2.2.2;go_loopw [6,7,8,9,10] (fun fv0 mv _ _ _ wr=>∃(fv:Value) (k n0:Nat) (l:List Nat) (e:Nat->Int),fv=fv0/\mv=.int .u64 (Cp.chain.getD k 0:Nat)/\Hid (Md.ImS k H u R ld n0 l e/\FV w0.heap.size wr fv n0 l e/\Below w0.heap.size w0 wr/\n0<=m+1/\(fv=.pointer none->n0=m+1))) (fun _ mv _ _ _ _=>(intOf mv).toNat)
  case atStart=>exact⟨_,0,m+1,[],fun _=>0,rfl,rfl,H0.out,.inl rfl,Jt _ _,Jr _,fun _=>rfl⟩
  case round=>
   clear H0;obtain⟨fv,k,n0,l,e,hfv,rfl,HS⟩:=hrel;subst hfv;have hk:k<=150:=HS.out.1.I9 HG.out.2.2.2.1 HG.out.2.2.2.2.1 HG.out.2.2.2.2.2.2.2.1 HG.out.2.2.2.2.2.2.2.2.1;obtain⟨mk,hmk⟩:∃mk:Nat,mk=Cp.chain.getD k 0:=⟨_,rfl⟩;have hmem:=(Md.gj (k:=k) (by omega)).1
   obtain⟨m2,hm2⟩:∃m2:Nat,m2=Cp.chain.getD (k+1) 0:=⟨_,rfl⟩;have hm2l:m2<mk:=by
    have:=(Cp.rV (k:=k) (by omega)).1
    omega
   have HC:Hid (mk=Cp.chain.getD k 0/\Gs.Pri (mk:Int)/\m2=Cp.chain.getD (k+1) 0):=⟨hmk,by rw[hmk];exact Cp.kM hmem,hm2⟩
   have l9:9<=mk:=by rw[hmk];exact Cp.vZ _ hmem
   have l0:mk<=2147483647:=by rw[hmk];exact(Cp.kf _ hmem).2
   rw[<-hmk];clear hmk hmem hm2;have hB0:=HS.out.2.2.1;obtain⟨q0,q1,-,-⟩:=HL.out.1.later hB0;have hul:=(HL.out.2.1.below hB0).ev (by omega)
   have hof:=vG hul (mk:Int) (by omega) (by omega)
   obtain⟨sc,hsc⟩:∃sc:Int,ld%(mk:Int)=sc:=⟨_,rfl⟩;have hsc0:0<=sc/\sc<mk:=by rw[<-hsc];exact⟨Int.emod_nonneg _ (by omega),JK _ (by omega)⟩
   rw[hsc] at hof
   have HSC:=(show Hid _ from hsc)
   clear hsc hul hB0;go_wp2_with fail;go_fit hof;rintro r w1 ⟨rfl,hb1⟩;clear hof q0 q1;have H1:Hid (Md.ImS k H u R ld n0 l e/\FV w0.heap.size w1 fv n0 l e/\Below w0.heap.size w0 w1/\n0<=m+1/\(fv=.pointer none->n0=m+1)):=⟨HS.out.1,HS.out.2.1.later hb1,ae HS.out.2.2.1 hb1,HS.out.2.2.2⟩;clear HS hb1;by_cases hs0:sc=0
   ·have HN:Hid (Md.ImS (k+1) H u R ld n0 l e/\FV w0.heap.size w1 fv n0 l e/\Below w0.heap.size w0 w1/\n0<=m+1/\(fv=.pointer none->n0=m+1)):=
     ⟨H1.out.1.skip (by omega) (Int.dvd_mul_of_dvd_left (by rw[<-HC.out.1];exact Int.dvd_of_emod_eq_zero (by rw[HSC.out,hs0]))),H1.out.2⟩
    subst hs0;have HX1:Hid (Below w.heap.size w w1):=ae HW.out H1.out.2.2.1;clear H1;have hbl:=fQ (k:=k) w1 (by omega) (HTZ.out.below (HX1.out))
    rw[<-HC.out.1,<-HC.out.2.2] at hbl
    go_wp2_with fail;go_fit hbl;rintro r wz ⟨rfl,rfl⟩;clear hbl;go_wp2;go_round
    case rel=>exact⟨_,k+1,n0,l,e,rfl,by rw[HC.out.2.2],HN.out⟩
    case measure=>simp[intOf];omega
   ·have HND:Hid (¬(mk:Int)∣ld):=fun hd=>hs0 (by rw[<-HSC.out];exact Int.emod_eq_zero_of_dvd hd)
    have hs1:(sc==0)=false:=by rw[beq_eq_false_iff_ne];exact hs0
    have hB1:=ae HW.out H1.out.2.2.1;have hPa:=(HP.out.1.below hB1).pa (by omega) (by omega)
    have hPb:=(HP.out.2.below hB1).pa (by omega) (by omega)
    have hra:=oN hPa (by omega) (mk:Int) (by omega) (by omega)
    go_wp2_with fail;go_fit hra;rintro r w2 ⟨rfl,hr2,hb2⟩;clear hra;have hrb:=oN (hPb.below hb2) (by omega) (mk:Int) (by omega) (by omega)
    go_wp2_with fail;go_fit hrb;rintro r w3 ⟨rfl,hr3,hb3⟩;clear hrb;have tla:=aj (zs.map (· % (mk:Int)));have tlb:=aj (ys.map (· % (mk:Int)));rw[List.length_map,HP.out.1.zl] at tla
    rw[List.length_map,HP.out.2.zl] at tlb
    have hdv:=yo w1.heap.size mk w1.heap.size (ad (zs.map (· % (mk:Int)))) n (zs.map (· % (mk:Int))) w2.heap.size (ad (ys.map (· % (mk:Int)))) m (ys.map (· % (mk:Int))) w3 ⟨hr2.below hb3 hr2.lt,hr3,Nat.ne_of_lt hr2.lt,Jr _,hb2.size,aj _,aj _,zG _ _ (by omega),zG _ _ (by omega)⟩ (JA hb2.size hb3.size) tla tlb (by omega) (by omega) (by omega) l0 m tlb
    go_wp2_with fail;go_fit hdv;rintro r w4 ⟨g4,c4,D,nd,hD,rfl,hr4,hRes,hndl,hg4,hb4⟩;clear hdv;have hT:=Md.AL HC.out.2.1 HG.out.1 HG.out.2.2.2.2.2.1 HU.out HND.out HG.out.2.2.1 tlb hD;have hnd0:=hT.pos;have hndm:=hT.le;rw[HP.out.2.nrm] at hndm
    have hndH:=hT.ge;have hB14:Below w1.heap.size w1 w4:=(ae hb2 hb3).trans hb4;have HTD:Hid (Md.Told mk zs ys H u R ld D nd/\Res (mk:Int) D/\nd<=D.length/\Row w4 g4 128 .u64 D):=⟨hT,hRes,hndl,hr4⟩;have H4:Hid (Md.ImS k H u R ld n0 l e/\FV w0.heap.size w4 fv n0 l e/\Below w0.heap.size w0 w4/\n0<=m+1/\(fv=.pointer none->n0=m+1)):=⟨H1.out.1,H1.out.2.1.later hB14,ae H1.out.2.2.1 hB14,H1.out.2.2.2⟩;have HB4:Hid (Below w.heap.size w w4):=ae HW.out H4.out.2.2.1;clear hT hD hb4 hr4 hr3 hr2 hb3 hb2 hPa hPb tla tlb hB1 H1 hB14 hRes hndl hg4;by_cases hn1:nd=1
    ·have hH1:H=[1]:=by
      have h1:H.length=1:=by
       have:=Md.cM HG.out.1.hP;have:=HG.out.1.hl;omega
      obtain⟨x,hx⟩:=List.length_eq_one_iff.1 h1;have h2:=HG.out.1.h0;have h3:=HG.out.1.hP x;rw[h1,hx] at h2
      rw[hx] at h3
      have h4:=h3 fun t=>by
       rcases t with _|t
       ·exact Int.dvd_refl _
       ·exact Int.dvd_zero _
      have h5:gx [x] (1-1)=x:=rfl;rw[h5] at h2
      rw[hx];congr 1;omega
     have HH1:=(show Hid _ from hH1)
     clear hH1 hnd0 hndm hndH;subst hn1;go_wp2_with fail;have hal:=ag (o:=.cells #[.int .i64 1] 2) (Jt w4.heap.size w4);have h1of:=zU (some ⟨w4.heap.size,0,none⟩) 1 1 [1] (w4.alloc (.cells #[.int .i64 1] 2)) rfl (by decide) (xH _ _ _) (fun j=>by
      rcases j with _|j
      ·exact⟨by decide,by decide⟩
      ·exact⟨by simp[gx],by simp[gx]⟩)
     go_fit h1of;rintro r w5 ⟨p5,n5,es5,rfl,hP5,hb5⟩;have HF:Hid (PA w5 70 p5 n5 n5 es5 H/\Below w.heap.size w w5):=by
      have h6:=hP5.pa (by decide) (by have:=hP5.zl;simp[tr,ad] at this;omega)
      rw[show tr [1]=H by rw[HH1.out];rfl] at h6
      exact⟨h6.up9 (by decide),ae HB4.out (ae hal hb5)⟩
     clear h1of hP5 hb5 hal;go_wp2;go_ret;exact⟨p5,n5,es5,rfl,HF.out⟩
    ·have k1:¬(nd:Int)=1:=by omega
     have k1':((nd:Int)==1)=false:=by rw[beq_eq_false_iff_ne];exact k1
     go_upto_region 10 with fail
     go_cut [55] from 44 to 55 (fun cv wd=>cv=.bool (decide (nd<n0))/\w4=wd)
     case first=>
      rcases H4.out.2.1 with hf|⟨g,gE,u1,es1,hf,hFA⟩
      ·have hlt:decide (nd<n0)=true:=decide_eq_true (by have:=H4.out.2.2.2.2 hf;omega)
       have HLT:=(show Hid _ from hlt)
       clear hlt H4 HTD;subst hf;go_wp2;go_meet;exact⟨by rw[HLT.out],rfl⟩
      ·have c0:=hFA.im.c0
       clear hFA H4 HTD;subst hf;rcases Ju nd n0 with hlt|hge
       ·have t1:(nd:Int)<(n0:Int):=by omega
        have HLT:Hid (decide (nd<n0)=true):=decide_eq_true hlt;clear hlt;go_wp2;go_meet;exact⟨by rw[HLT.out],rfl⟩
       ·have t1:¬(nd:Int)<(n0:Int):=by omega
        have HLT:Hid (decide (nd<n0)=false):=decide_eq_false (by omega)
        clear hge;go_wp2;go_meet;exact⟨by rw[HLT.out],rfl⟩
     case rest=>
      obtain⟨rfl,rfl⟩:=hcut;go_upto_if 55 with fail
      go_cut [6] from 55 to 69 (fun fv2 wd=>∃(n1 g gE:Nat) (l1:List Nat) (e1:Nat->Int) (u1:Ent) (es1:List Ent),fv2=.pointer (some ⟨g,0,none⟩)/\n1<=nd/\Hid (Md.ImS k H u R ld n1 l1 e1/\FA w0.heap.size wd g gE n1 u1 es1 l1 e1/\Below w4.heap.size w4 wd))
      case first=>
       by_cases hlt:nd<n0
       ·have HLT:=(show Hid (nd<n0) from hlt)
        rw[decide_eq_true hlt];clear hlt;by_cases hnm:nd=m
        ·subst hnm
         have hdd:=kh ((HP.out.1.below HB4.out).pb (by omega)) ((HP.out.2.below HB4.out).pb (by omega)) hm1 hmn hn (by decide) (by decide)
         go_wp2_with fail;go_fit hdd;rintro r w5 ⟨bb,rfl,hdb,hb5⟩;clear hdd;rcases bb with _|_
         ·have hni:=oz nd w5 (by omega)
          go_wp2_with fail;go_fit hni;rintro r w6 ⟨g,gE,u1,rfl,hI,hRw,hM,hg1,hg2,hne,hb6⟩;clear hni;have HN:Hid (Md.ImS k H u R ld nd [] (fun _=>0)/\FA w0.heap.size w6 g gE nd u1 (ezs nd) [] (fun _=>0)/\Below w4.heap.size w4 w6):=by
           have hhb5:Below w4.heap.size w4 w5:=hb5;have hs1:=H4.out.2.2.1.size;have hs2:=hhb5.size;refine⟨H4.out.1.fresh HLT.out hndH,⟨hI,hRw,bL nd,?_,fun j hj=>?_,by omega,by omega,hne⟩,ae hhb5 hb6⟩
           ·have e1:((Cp.aH []:Nat):Int)=1:=rfl
            rw[e1];exact(hM.mono (Jz _)).fit (by have h1:=aW (show 1<=70 by decide);have h2:pw 1=4294967296:=(by decide);omega)
           ·rw[jy]
            exact NV.ez 0 w6 70
          clear hI hRw hM hg1 hg2 hne hb6 H4;go_wp2_with fail;go_meet;exact⟨nd,g,gE,[],fun _=>0,u1,ezs nd,rfl,Jr _,HN.out⟩
         ·have HY:Hid (ys=H):=by
           have hl:=HP.out.2.zl;have hnr:=HP.out.2.nrm;refine HG.out.1.uniq HG.out.2.2.2.1 HG.out.2.2.2.2.2.1 HG.out.2.2.1 (by omega) (by rw[hl];exact HG.out.2.2.2.2.2.2.2.2.2.1) (hdb.out.1 rfl) (Md.mK ys) ?_
           rw[HG.out.1.hl,hnr];exact HG.out.2.2.2.2.2.2.2.2.2.2
          have HF:Hid (PA w5 70 (some ⟨c2,o2,none⟩) nd nd fs H/\Below w.heap.size w w5):=by
           have h6:=(HP.out.2.below (ae HB4.out hb5)).pa (by omega) (by omega)
           rw[HY.out] at h6
           exact⟨h6.up9 (by decide),ae HB4.out hb5⟩
          clear H4 HTD hb5 hdb;go_wp2;go_ret;exact⟨some ⟨c2,o2,none⟩,nd,fs,rfl,HF.out⟩
        ·have m1:¬(nd:Int)=(m:Int):=by omega
         have m1':((nd:Int)==(m:Int))=false:=by rw[beq_eq_false_iff_ne];exact m1
         have hni:=oz nd w4 (by omega)
         go_wp2_with fail;go_fit hni;rintro r w6 ⟨g,gE,u1,rfl,hI,hRw,hM,hg1,hg2,hne,hb6⟩;clear hni;have HN:Hid (Md.ImS k H u R ld nd [] (fun _=>0)/\FA w0.heap.size w6 g gE nd u1 (ezs nd) [] (fun _=>0)/\Below w4.heap.size w4 w6):=by
          have hBX:Below w4.heap.size w4 w4:=Jt _ _;have hs1:=H4.out.2.2.1.size;have hs2:=hBX.size;refine⟨H4.out.1.fresh HLT.out hndH,⟨hI,hRw,bL nd,?_,fun j hj=>?_,by omega,by omega,hne⟩,ae hBX hb6⟩
          ·have e1:((Cp.aH []:Nat):Int)=1:=rfl
           rw[e1];exact(hM.mono (Jz _)).fit (by have h1:=aW (show 1<=70 by decide);have h2:pw 1=4294967296:=(by decide);omega)
          ·rw[jy]
           exact NV.ez 0 w6 70
         clear hI hRw hM hg1 hg2 hne hb6 H4;go_wp2_with fail;go_meet;exact⟨nd,g,gE,[],fun _=>0,u1,ezs nd,rfl,Jr _,HN.out⟩
       ·rcases H4.out.2.1 with hf|⟨g,gE,u1,es1,hf,hFA⟩
        ·exact absurd (by have:=H4.out.2.2.2.2 hf;omega) hlt
        ·rw[decide_eq_false hlt]
         have HN:Hid (Md.ImS k H u R ld n0 l e/\FA w0.heap.size w4 g gE n0 u1 es1 l e/\Below w4.heap.size w4 w4/\n0<=nd):=⟨H4.out.1,hFA,Jt _ _,by omega⟩
         clear hFA H4 hlt;subst hf;go_wp2;go_meet;exact⟨n0,g,gE,l,e,u1,es1,rfl,HN.out.2.2.2,HN.out.1,HN.out.2.1,HN.out.2.2.1⟩
      case rest=>
       obtain⟨n1,g,gE,l1,e1,u1,es1,rfl,hle,HD⟩:=hcut;rcases Ju n1 nd with hlt|hge
       ·have t1:(n1:Int)<(nd:Int):=by omega
        have c0:=HD.out.2.1.im.c0;have HN:Hid (Md.ImS (k+1) H u R ld n1 l1 e1/\FV w0.heap.size wc (.pointer (some ⟨g,0,none⟩)) n1 l1 e1/\Below w0.heap.size w0 wc/\n1<=m+1/\((Value.pointer (some ⟨g,0,none⟩))=.pointer none->n1=m+1)):=
         ⟨HD.out.1.skip (by omega) (Int.dvd_mul_of_dvd_right (by rw[<-HC.out.1];exact HTD.out.1.bad (by have:=HD.out.1.ge;omega))),.inr ⟨g,gE,u1,es1,rfl,HD.out.2.1⟩,ae H4.out.2.2.1 HD.out.2.2,by omega,fun h9=>by cases h9⟩
        have HX1:Hid (Below w.heap.size w wc):=ae HB4.out HD.out.2.2;clear HD HTD H4 hlt;have hbl:=fQ (k:=k) wc (by omega) (HTZ.out.below HX1.out)
        rw[<-HC.out.1,<-HC.out.2.2] at hbl
        go_wp2_with fail;go_fit hbl;rintro r wz ⟨rfl,rfl⟩;clear hbl;go_wp2;go_round
        case rel=>exact⟨_,k+1,n1,l1,e1,rfl,by rw[HC.out.2.2],HN.out⟩
        case measure=>simp[intOf];omega
       ·obtain rfl:n1=nd:=by omega
        have t1:¬(n1:Int)<(n1:Int):=by omega
        have c0:=HD.out.2.1.im.c0;have hdr:=HTD.out.2.2.2.below HD.out.2.2 HTD.out.2.2.2.lt;have hsl:=sV (some ⟨g4,0,none⟩) n1 c4 (D.take n1) (mk:Int) sc wc (by rw[List.length_take];have:=HTD.out.2.2.1;omega) (by omega) (hdr.b5 n1) (HTD.out.2.1.take n1) (by omega) (by omega) hsc0.1 hsc0.2
        clear hdr;go_wp2_with fail;go_fit hsl;rintro r w7 ⟨rfl,hr7,hb7⟩;clear hsl;obtain⟨rs,hrs⟩:∃rs,rs=(D.take n1).map (· * sc%(mk:Int)):=⟨_,rfl⟩;rw[<-hrs] at hr7
        have hrl:rs.length=n1:=by rw[hrs,List.length_map,List.length_take];have:=HTD.out.2.2.1;omega
        have hrr:∀j,0<=gx rs j/\gx rs j<mk:=fun j=>by
         rw[hrs,cE (· * sc%(mk:Int)) (by simp)]
         exact⟨Int.emod_nonneg _ (by omega),JK _ (by omega)⟩
        have hrd:∀t,t<n1->(mk:Int)∣gx rs t-ld*gx D t:=fun t ht=>by
         rw[hrs,cE (· * sc%(mk:Int)) (by simp),bm _ _ _ ht,<-HSC.out]
         show(mk:Int)∣gx D t*(ld%(mk:Int))%(mk:Int)-ld*gx D t
         have h1:gx D t*(ld%(mk:Int))%(mk:Int)=ld*gx D t%(mk:Int):=by rw[Int.mul_emod,Int.emod_emod,<-Int.mul_emod,JI]
         rw[h1];exact Md.dP _ _
        have hmo:mk%2=1:=by rw[HC.out.1];exact Md.uR _ (Md.gj (k:=k) (by omega)).1
        obtain⟨bd1,bd2⟩:=HD.out.1.bdm HG.out.2.2.2.1 HG.out.2.2.2.2.1 l0 (by omega) hmo
        have hF7:=HD.out.2.1.later hb7;have hs0':=H4.out.2.2.1.size;have hs1':=HD.out.2.2.size;have hs7:=hb7.size;have hgl:=HD.out.2.1.im.lt;have hgEl:=HD.out.2.1.row.lt;have htk:=E0 w0.heap.size g gE wc.heap.size n1 mk u1 ((Cp.aH l1:Nat):Int) e1 rs es1 w7 (by omega) hF7.g1 hF7.g2 hF7.ne (by omega) (by omega) (by omega) (by omega) l0 ⟨hF7.im,hF7.row,hF7.el,hF7.mo,fun j hj=>by unfold tkv;rw[if_neg (Nat.not_lt_zero j)];exact hF7.ev j hj,hr7,Jt _ _⟩ hrl hrr (fun j hj=>bd2 _ j hj) bd1
        have HR:Hid ((∀t,t<n1->(mk:Int)∣gx rs t-ld*gx D t)/\w0.heap.size<=g/\w0.heap.size<=gE/\g≠gE):=⟨hrd,hF7.g1,hF7.g2,hF7.ne⟩;have HB7:Hid (Below w0.heap.size w0 w7):=ae (ae H4.out.2.2.1 HD.out.2.2) hb7;clear hF7 hr7 hb7 hrl hrr hrd bd1 bd2 hs0' hs1' hs7 hgl hgEl hrs hmo;go_wp2_with fail;go_fit htk;rintro r w8 ⟨u8,es8,rfl,hK8⟩;clear htk;have HK8:Hid (TkI w0.heap.size w7 w8 g gE wc.heap.size n1 mk u8 (((Cp.aH l1:Nat):Int)*(mk:Int)) (fun j=>Cr.nxt mk (Cp.aH l1:Nat) (e1 j) (gx rs j)) (gx rs) rs 0 es8):=hK8
        have HB8:Hid (Below w0.heap.size w0 w8):=HB7.out.trans hK8.bw;have hFA8:FA w0.heap.size w8 g gE n1 u8 es8 (mk::l1) (fun j=>Cr.nxt mk (Cp.aH l1:Nat) (e1 j) (gx rs j)):=by
         refine⟨hK8.im,hK8.row,hK8.el,?_,fun j hj=>?_,HR.out.2.1,HR.out.2.2.1,HR.out.2.2.2⟩
         ·have h1:=hK8.mo
          rw[Cp.aH,Int.natCast_mul,JI];exact h1
         ·have h1:=hK8.ev j hj
          unfold tkv at h1
          rwa [if_neg (Nat.not_lt_zero j)] at h1
        have HF8:=(show Hid _ from hFA8)
        have HNX:Hid (¬(n1=H.length/\13<=l1.length)->Md.ImS (k+1) H u R ld n1 (mk::l1) (fun j=>Cr.nxt mk (Cp.aH l1:Nat) (e1 j) (gx rs j))):=fun hno=>by
         have h1:=HD.out.1.next (k:=k) (by omega) (A:=zs) (B:=ys) (D:=D) (by rw[<-HC.out.1];exact HTD.out.1) (by rw[<-HC.out.1];exact HND.out) (r:=gx rs) (by rw[<-HC.out.1];exact HR.out.1) (fun hn=>by
          rcases Ju l1.length 13 with h2|h2
          ·omega
          ·exact absurd ⟨hn,h2⟩ hno)
         rw[<-HC.out.1] at h1
         exact h1
        have HFU:Hid ((n1=H.length/\13<=l1.length)->chg mk ((Cp.aH l1:Nat):Int) e1 (gx rs) n1=false/\∀t,t<n1->Cr.nxt mk (Cp.aH l1:Nat) (e1 t) (gx rs t)=u*gx H t):=fun⟨hn,h13⟩=>by
         have h1:∀t,t<n1->Cr.dE mk ((Cp.aH l1:Nat):Int) (e1 t) (gx rs t)=0:=HD.out.1.dE hn h13 hbW HG.out.2.2.2.2.2.2.1 HTD.out.1 HR.out.1 _;refine⟨?_,fun t ht=>by rw[Cr.wZ (h1 t ht)];exact HD.out.1.is hn h13 hbW HG.out.2.2.2.2.2.2.1 t ht⟩
         unfold chg;rw[List.any_eq_false];intro t ht;rw[h1 t (List.mem_range.1 ht)];decide
        have HTP:Hid (Cr.nxt mk (Cp.aH l1:Nat) (e1 (n1-1)) (gx rs (n1-1))≠0):=by
         have h1:=HD.out.1.topn (k:=k) (by omega) (A:=zs) (B:=ys) (D:=D) (by rw[<-HC.out.1];exact HTD.out.1) (by rw[<-HC.out.1];exact HND.out) (r:=gx rs) (by rw[<-HC.out.1];exact HR.out.1)
         rw[<-HC.out.1] at h1
         exact h1
        have HQ8:Hid (PA w8 70 (some ⟨gE,0,none⟩) n1 n1 es8 (Md.lst n1 fun j=>Cr.nxt mk (Cp.aH l1:Nat) (e1 j) (gx rs j))):=by
         refine⟨hFA8.el,by simp[Md.lst],Jr _,by unfold maxLen;omega,(fun h9=>by cases h9),hFA8.row.pl,fun j hj=>?_⟩
         have h1:gx (Md.lst n1 fun j=>Cr.nxt mk (Cp.aH l1:Nat) (e1 j) (gx rs j)) j=Cr.nxt mk (Cp.aH l1:Nat) (e1 j) (gx rs j):=by
          unfold Md.lst;simp[gx,hj]
         rw[h1];exact(hFA8.ev j hj).ev (by decide)
        have c0':=hFA8.im.c0;have hH1:H.length<=n1:=HD.out.1.ge;clear hK8 hFA8 HK8 HD c0 HB7 H4 HTD HR;obtain⟨cg,hcg⟩:∃cg,cg=chg mk ((Cp.aH l1:Nat):Int) e1 (gx rs) n1:=⟨_,rfl⟩;rw[<-hcg] at HFU ⊢
        clear hcg;obtain⟨en,hen⟩:∃en:Nat->Int,en=fun j=>Cr.nxt mk (Cp.aH l1:Nat) (e1 j) (gx rs j):=⟨_,rfl⟩
        have HE:Hid (FA w0.heap.size w8 g gE n1 u8 es8 (mk::l1) en/\(¬(n1=H.length/\13<=l1.length)->Md.ImS (k+1) H u R ld n1 (mk::l1) en)/\((n1=H.length/\13<=l1.length)->cg=false/\∀t,t<n1->en t=u*gx H t)/\en (n1-1)≠0/\PA w8 70 (some ⟨gE,0,none⟩) n1 n1 es8 (Md.lst n1 en)/\Below w0.heap.size w0 w8):=by
         rw[hen];exact⟨HF8.out,HNX.out,HFU.out,HTP.out,HQ8.out,HB8.out⟩
        clear hen HF8 HNX HFU HTP HQ8 HB8;rcases cg with _|_
        ·have hsp:ad (Md.lst n1 en)=(Md.lst n1 en).length:=by
          have hl:(Md.lst n1 en).length=n1:=by simp[Md.lst]
          rw[hl];refine aX _ _ (fun j hj=>ak _ _ (by omega) j hj) (.inr ?_)
          have h1:gx (Md.lst n1 en) (n1-1)=en (n1-1):=by
           unfold Md.lst;simp[gx,show n1-1<n1 by omega]
          rw[h1];exact HE.out.2.2.2.1
         have hsl:(Md.lst n1 en).length=n1:=by simp[Md.lst]
         obtain⟨s1,s2,s3,s4,s5,s6⟩:=Md.c9 hsp (by omega)
         rw[hsl] at s2 s3 s4
         have hpr:=C_ HE.out.2.2.2.2.1 (by omega) (by decide) (by decide)
         have htr:tr (Md.lst n1 en)=Md.lst n1 en:=by
          unfold tr;rw[hsp,List.take_length]
         rw[htr] at hpr
         have HFL:Hid ((n1=H.length/\13<=l1.length)->aC (Md.lst n1 en)=H):=fun hf=>Md.Et (fun hu0=>by
          have h1:=HU.out;rw[hu0,JC] at h1
          exact HG.out.2.2.2.2.2.2.2.1 h1) HG.out.1.hl HG.out.1.h0 HG.out.1.hP hf.1 (HE.out.2.2.1 hf).2
         generalize aC (Md.lst n1 en)=P at *
         have HS:Hid (Gs.Prm P/\0<gx P (n1-1)/\ad P=n1/\P.length=n1):=⟨s1,s2,s3,s4⟩;clear hsp hsl s1 s2 s3 s4 s5 s6 htr;go_wp2_with fail;go_fit hpr;rintro r w9 ⟨p9,n9,es9,rfl,hP9,hb9⟩;clear hpr c0';obtain rfl:n9=n1:=by rw[<-hP9.zl];exact HS.out.2.2.2
         have HB9:Hid (Below w.heap.size w w9):=ae (ae HW.out HE.out.2.2.2.2.2) hb9;have HP9:Hid (PN w8.heap.size w9 70 p9 n9 es9 P/\Below w8.heap.size w8 w9):=⟨hP9,hb9⟩;have hdd:=kh ((HP.out.1.below HB9.out).pb (by omega)) (hP9.pb (by omega)) hnd0 (by omega) hn (by decide) (by decide)
         clear hP9 hb9;go_wp2_with fail;go_fit hdd;rintro r w10 ⟨bb,rfl,hdb,hb10⟩;clear hdd;have HNF:Hid (¬Dvd zs P->¬(n9=H.length/\13<=l1.length)):=fun hno hf=>hno (by rw[HFL.out hf];exact HG.out.1.dvd.1)
         have HNG:Hid (¬Dvd ys P->¬(n9=H.length/\13<=l1.length)):=fun hno hf=>hno (by rw[HFL.out hf];exact HG.out.1.dvd.2)
         rcases bb with _|_
         ·have HB10:Hid (Below w8.heap.size w8 w10):=ae HP9.out.2 hb10
          have HD10:Hid (¬Dvd zs P):=fun h9=>by have:=hdb.out.2 h9;cases this
          have HN:Hid (Md.ImS (k+1) H u R ld n9 (mk::l1) en/\FV w0.heap.size w10 (.pointer (some ⟨g,0,none⟩)) n9 (mk::l1) en/\Below w0.heap.size w0 w10/\n9<=m+1/\((Value.pointer (some ⟨g,0,none⟩))=.pointer none->n9=m+1)):=
           ⟨HE.out.2.1 (HNF.out HD10.out),.inr ⟨g,gE,u8,es8,rfl,HE.out.1.later HB10.out⟩,ae HE.out.2.2.2.2.2 HB10.out,by omega,fun h9=>by cases h9⟩
          have HX1:Hid (Below w.heap.size w w10):=ae HW.out HN.out.2.2.1;clear HE HB9 HP9 hdb hb10 HFL HS HB10 HD10 HNF HNG;have hbl:=fQ (k:=k) w10 (by omega) (HTZ.out.below HX1.out)
          rw[<-HC.out.1,<-HC.out.2.2] at hbl
          go_wp2_with fail;go_fit hbl;rintro r wz ⟨rfl,rfl⟩;clear hbl;go_wp2;go_round
          case rel=>exact⟨_,k+1,n9,mk::l1,en,rfl,by rw[HC.out.2.2],HN.out⟩
          case measure=>simp[intOf];omega
         ·have HB10:Hid (Below w.heap.size w w10):=ae HB9.out hb10
          have HDA:Hid (Dvd zs P):=hdb.out.1 rfl;have hde:=kh ((HP.out.2.below HB10.out).pb (by omega)) ((HP9.out.1.below hb10).pb (by omega)) hnd0 hndm (by omega) (by decide) (by decide)
          have HB108:Hid (Below w8.heap.size w8 w10):=ae HP9.out.2 hb10;have HPX:Hid (PN w8.heap.size w10 70 p9 n9 es9 P):=HP9.out.1.below hb10;clear hdb hb10 HB9 HP9;go_wp2_with fail;go_fit hde;rintro r w11 ⟨b2,rfl,hdb,hb11⟩;clear hde;rcases b2 with _|_
          ·have HB11:Hid (Below w8.heap.size w8 w11):=ae HB108.out hb11
           have HD11:Hid (¬Dvd ys P):=fun h9=>by have:=hdb.out.2 h9;cases this
           have HN:Hid (Md.ImS (k+1) H u R ld n9 (mk::l1) en/\FV w0.heap.size w11 (.pointer (some ⟨g,0,none⟩)) n9 (mk::l1) en/\Below w0.heap.size w0 w11/\n9<=m+1/\((Value.pointer (some ⟨g,0,none⟩))=.pointer none->n9=m+1)):=
            ⟨HE.out.2.1 (HNG.out HD11.out),.inr ⟨g,gE,u8,es8,rfl,HE.out.1.later HB11.out⟩,ae HE.out.2.2.2.2.2 HB11.out,by omega,fun h9=>by cases h9⟩
           have HX1:Hid (Below w.heap.size w w11):=ae HW.out HN.out.2.2.1;clear HE HB10 HB108 HPX hdb hb11 HFL HS HB11 HD11 HNF HNG HDA;have hbl:=fQ (k:=k) w11 (by omega) (HTZ.out.below HX1.out)
           rw[<-HC.out.1,<-HC.out.2.2] at hbl
           go_wp2_with fail;go_fit hbl;rintro r wz ⟨rfl,rfl⟩;clear hbl;go_wp2;go_round
           case rel=>exact⟨_,k+1,n9,mk::l1,en,rfl,by rw[HC.out.2.2],HN.out⟩
           case measure=>simp[intOf];omega
          ·have HPH:Hid (P=H):=by
            have h9:=HS.out;refine HG.out.1.uniq HG.out.2.2.2.1 HG.out.2.2.2.2.2.1 h9.1 (by rw[h9.2.2.1,h9.2.2.2]) (by rw[h9.2.2.2];exact h9.2.1) HDA.out (hdb.out.1 rfl) ?_
            rw[HG.out.1.hl,h9.2.2.1];exact hndH
           have HF:Hid (PA w11 70 p9 n9 n9 es9 H/\Below w.heap.size w w11):=by
            have h6:=(HPX.out.below hb11).pa (by omega) (by omega)
            rw[HPH.out] at h6
            exact⟨h6,ae HB10.out hb11⟩
           clear HE HB10 HB108 HPX hdb hb11 HFL HS HNF HNG HDA HPH;go_wp2;go_ret;exact⟨p9,n9,es9,rfl,HF.out⟩
        ·have HNT:Hid (¬(n1=H.length/\13<=l1.length)):=fun hf=>by
          have:=(HE.out.2.2.1 hf).1
          cases this
         have HN:Hid (Md.ImS (k+1) H u R ld n1 (mk::l1) en/\FV w0.heap.size w8 (.pointer (some ⟨g,0,none⟩)) n1 (mk::l1) en/\Below w0.heap.size w0 w8/\n1<=m+1/\((Value.pointer (some ⟨g,0,none⟩))=.pointer none->n1=m+1)):=
          ⟨HE.out.2.1 HNT.out,.inr ⟨g,gE,u8,es8,rfl,HE.out.1⟩,HE.out.2.2.2.2.2,by omega,fun h9=>by cases h9⟩
         have HX1:Hid (Below w.heap.size w w8):=ae HW.out HN.out.2.2.1;clear HE c0' HNT;have hbl:=fQ (k:=k) w8 (by omega) (HTZ.out.below HX1.out)
         rw[<-HC.out.1,<-HC.out.2.2] at hbl
         go_wp2_with fail;go_fit hbl;rintro r wz ⟨rfl,rfl⟩;clear hbl;go_wp2;go_round
         case rel=>exact⟨_,k+1,n1,mk::l1,en,rfl,by rw[HC.out.2.2],HN.out⟩
         case measure=>simp[intOf];omega
end Go.Proofs.YtdjjlghlcffflaaGreatDoor
