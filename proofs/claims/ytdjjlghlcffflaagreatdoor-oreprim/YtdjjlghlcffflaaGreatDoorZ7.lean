/- Own. -/
import Derived.Test.YtdjjlghlcffflaaGreatDoorZ3
set_option linter.unusedVariables false
set_option linter.unusedSimpArgs false
set_option maxHeartbeats 8000000
set_option maxRecDepth 100000
namespace Go.Proofs.YtdjjlghlcffflaaGreatDoor
open Go.RowKit
def GSt(H A B:List Int):Prop:=(B.length=0/\A=H)\/(A.length=0/\0<B.length/\B=H)\/(0<A.length/\0<B.length/\∃(al be:List Int) (s u F:Nat),Md.Chn H A B al be s u/\Md.Ck F al.length be.length s u=true)
structure HF(H:List Int):Prop where
 hl:ad H=H.length
 h0:0<gx H (H.length-1)
 hP:Gs.Prm H
 h8:H.length<=8
 hb:∀t,(gx H t).natAbs<=2^Md.gm
variable {H:List Int}
theorem HF.pos(h:HF H):0<H.length:=by
 have:=Md.cM h.hP;have:=h.hl;omega
variable {w:World} {A:List Int}
theorem DS{B:List Int}{pa pb:Option Addr}{na nb:Nat}{ea eb:List Ent}(hF:HF H)(ha:PR w 170 pa na na ea A)(hb:PR w 170 pb nb nb eb B)(hat:ad A=na)(hbt:ad B=nb)(hna:na<=12)(hnb:nb<=12)(h0:0<nb)(hS:GSt H A B):
  Calls Tryz.prog 88 #[.slice pa na na,.slice pb nb nb] w fun r w'=>∃(pq pr:Option Addr) (nq nr:Nat) (er:List Ent) (rz:List Int),r=.returned (.tuple #[.slice pq nq nq,.slice pr nr nr])/\PR w' 170 pr nr nr er rz/\ad rz=nr/\nr<nb/\GSt H B (aC rz)/\Below w.heap.size w w':=by
 have hpos:=hF.pos;obtain⟨g,hg⟩:∃g,H.length=g+1:=⟨H.length-1,by omega⟩
 have hHg:gx H g≠0:=by
  have:=hF.h0;rw[hg,JD] at this
  omega
 rcases hS with ⟨h1,-⟩|⟨h1,h2,h3⟩|⟨h1,h2,al,be,s,u,F,hC,hck⟩
 ·rw[hb.zl] at h1;omega
 ·subst h3
  have hA0:A=[]:=JB h1;have e1:∀t,Md.cvf (gx [1]) (gx B) t=gx B t:=fun t=>by
   have e:Md.cvf (gx [1]) (gx B) t=Md.cvf (Md.cst 1) (gx B) t:=by
    unfold Md.cvf;refine Cp.cU _ fun i _=>?_
    show gx [1] i*_=Md.cst 1 i*_
    unfold Md.cst;rcases Jw i with h4|h4
    ·subst h4;rfl
    ·rw[ak [1] 1 (by decide) i h4,if_neg (by omega)]
   rw[e,Md.lP,Int.one_mul]
  have K:PK3 B [] [1] B g 0 nb 0:=⟨hg,hHg,hF.h8,fun t=>(e1 t).symm,fun t ht=>ak [1] 1 (by decide) t ht,by decide,by have:=hb.zl;omega,hF.hb,fun t=>by
   rcases Jw t with h4|h4
   ·subst h4;decide
   ·rw[ak [1] 1 (by decide) t h4];decide⟩
  have hn0:na=0:=by rw[<-ha.zl];exact h1
  refine(oO (s:=0) (al:=[]) ha hb hat hbt hna hnb K (fun t=>?_) (fun t=>by rw[cS];decide) ?_).mono ?_
  ·rw[hA0,Md.cvf]
   rw[cS];exact(Md.fM _ fun i _=>by show gx [] i*_=0;rw[cS,Int.zero_mul]).symm
  ·rw[hn0,show 0+1-nb=0 by omega]
   unfold Xb Md.gm;omega
  ·rintro r w' ⟨pq,pr,nq,nr,er,rz,rho,ka,rfl,k1,k2,k3,k4,-,-,k5⟩
   have hr0:rz=[]:=JB (by rw[k1.zl];omega)
   exact⟨pq,pr,nq,nr,er,rz,rfl,k1,k2,k3,.inl ⟨by rw[hr0];rfl,rfl⟩,k5⟩
 ·obtain⟨u',hu'⟩:∃u',u'=if be.length=1 then 0 else u:=⟨_,rfl⟩
  have hC':Md.Chn H A B al be s u':=by
   rw[hu'];split
   ·rename_i h5;exact hC.unit h5
   ·exact hC
  have hbe:0<be.length:=by
   have:=Md.cM hC.bP;have:=hC.bT;omega
  have tA:=Md.vk hC.hA hC.aT hF.hl hC.al0 hpos;have tB:=Md.vk hC.hB hC.bT hF.hl hbe hpos;obtain⟨mb,hmb⟩:∃mb,be.length=mb+1:=⟨be.length-1,by omega⟩
  have hb0:=hC.be0;rw[hmb,JD] at hb0
  have K:PK3 H al be B g mb nb u':=⟨hg,hHg,hF.h8,hC.hB,fun t ht=>ak be (mb+1) (by omega) t (by omega),by omega,by omega,hF.hb,hC'.ub⟩
  have hE:na+1-nb=al.length+1-be.length:=by omega
  have hbits:=Md.F7 hck;rw[<-hu',<-hE] at hbits
  refine(oO ha hb hat hbt hna hnb K hC.hA hC.sb (by unfold Xb;exact hbits)).mono ?_
  rintro r w' ⟨pq,pr,nq,nr,er,rz,rho,ka,rfl,k1,k2,k3,k4,k5,k6,k7⟩;refine⟨pq,pr,nq,nr,er,rz,rfl,k1,k2,k3,?_,k7⟩;have hzl:=k1.zl;rcases Jw nr with hn|hn
  ·have hr0:rz=[]:=JB (by omega)
   refine .inl ⟨by rw[hr0];rfl,?_⟩
   exact hC'.last hF.hl (by rw[hbt,hb.zl]) hF.hP k5 hF.h0 fun t=>by rw[hr0,cS]
  ·obtain⟨be',c1,c2⟩:=hC'.next hF.hl hF.h0 hF.hP k5 k6 (by omega) (by omega)
   have hbe':0<be'.length:=by
    have:=Md.cM c1.bP;have:=c1.bT;omega
   have hF0:∃F',F=F'+1:=by
    cases F with
    |zero=>cases hck
    |succ F=>exact⟨F,rfl⟩
   obtain⟨F',rfl⟩:=hF0;have hn2:=Md.F8 hck (k:=be'.length) (by omega) hbe'
   rw[<-hu',<-hE] at hn2
   refine .inr (.inr ⟨by rw[hb.zl];exact h0,?_,be,be',u',_,F',c1,hn2⟩)
   rw[cW,List.length_map];omega
variable {xs ys:List Int} {p q:Option Addr} {n m:Nat} {es fs:List Ent}
theorem CQ(h:PR w 170 p n n es xs)(k:PR w 170 q m m fs ys)(hx:ad xs=n)(hy:ad ys=m)(hn:n<=12)(hm:m<=12)(hS:GSt H (aC xs) (aC ys))(hF:0<m->HF H):
  Calls Tryz.prog 43 #[.slice p n n,.slice q m m] w (PrP (tr (H.map (((Int.gcd ((aB xs:Nat):Int) ((aB ys:Nat):Int):Nat):Int) * ·))) 341 w):=by
 have HX:Hid (PR w 170 p n n es xs/\PR w 170 q m m fs ys/\ad xs=n/\ad ys=m/\GSt H (aC xs) (aC ys)/\(0<m->HF H)):=⟨h,k,hx,hy,hS,hF⟩;have hc1:=jI h (by omega) (by decide) (by decide)
 clear h k hx hy hS hF;go_enter Tryz.func43,Tryz.ntmps43;go_wp2_with fail;go_fit hc1;rintro r w1 ⟨u1,rfl,hu1,hb1⟩;have hc2:=jI (HX.out.2.1.below hb1) (by omega) (by decide) (by decide)
 clear hc1;go_wp2_with fail;go_fit hc2;rintro r w2 ⟨u2,rfl,hu2,hb2⟩;have hgc:=CJ (fun _=>True) (hu1.below hb2) hu2 (by decide) (fun _ _ _=>trivial) (fun _ _ _=>trivial) (fun _ _=>trivial)
 have HB2:Hid (Below w.heap.size w w2):=ae hb1 hb2;clear hc2 hu1 hu2 hb1 hb2;go_wp2_with fail;go_fit hgc;rintro r w3 ⟨u3,rfl,hu3,-,hb3⟩;have hal:=ag (o:=.cells #[.bool u3.s,.slice u3.p u3.n u3.c] 65) (Jt w3.heap.size w3);have hXl:Bx (w3.alloc (.cells #[.bool u3.s,.slice u3.p u3.n u3.c] 65)) w3.heap.size (.bool u3.s) (.slice u3.p u3.n u3.c):=Bx.new _ _ _ rfl;have hu4:=hu3.below hal;have HB3:Hid (Below w.heap.size w (w3.alloc (.cells #[.bool u3.s,.slice u3.p u3.n u3.c] 65))):=ae (ae HB2.out hb3) hal;have hp1:=ni (HX.out.1.below HB3.out) HX.out.2.2.1 (by omega) (by decide) (by decide)
 clear hgc hu3 hb3 hal HB2;go_wp2_with fail;generalize w3.alloc (.cells #[.bool u3.s,.slice u3.p u3.n u3.c] 65)=W3 at *
 generalize w3.heap.size=gl at *
 go_fit hp1;rintro r w4 ⟨pa,na,ea,rfl,hA,-,hAt,hb4⟩;have hp2:=ni (HX.out.2.1.below (ae HB3.out hb4)) HX.out.2.2.2.1 (by omega) (by decide) (by decide)
 clear hp1;go_wp2_with fail;go_fit hp2;rintro r w5 ⟨pb,nb,eb,rfl,hB,-,hBt,hb5⟩;clear hp2;have hna:na<=12:=by have h1:=hA.zl;rw[cW,List.length_map,HX.out.1.zl] at h1;omega
 have hnb:nb<=12/\(0<nb->0<m):=by
  have h1:=hB.zl;rw[cW,List.length_map,HX.out.2.1.zl] at h1
  exact⟨by omega,by omega⟩
 have HL:Hid (Bx W3 gl (.bool u3.s) (.slice u3.p u3.n u3.c)/\RE W3 170 (((Int.gcd ((aB xs:Nat):Int) ((aB ys:Nat):Int):Nat):Int)) u3):=⟨hXl,hu4⟩;have HI:Hid (PR w5 170 pa na na ea (aC xs)/\PR w5 170 pb nb nb eb (aC ys)/\ad (aC xs)=na/\ad (aC ys)=nb/\Below W3.heap.size W3 w5/\GSt H (aC xs) (aC ys)/\(0<nb->HF H)):=⟨hA.below hb5,hB,hAt,hBt,ae hb4 hb5,HX.out.2.2.2.2.1,fun h9=>HX.out.2.2.2.2.2 (hnb.2 h9)⟩
 have hnb12:=hnb.1;clear hA hB hAt hBt hb4 hb5 hXl hu4 hnb;obtain⟨cc,hcc⟩:∃cc:Int,(((Int.gcd ((aB xs:Nat):Int) ((aB ys:Nat):Int):Nat):Int))=cc:=⟨_,rfl⟩;have HCC:=(show Hid _ from hcc)
 rw[hcc] at HL
 clear hcc;generalize aC xs=X0 at *
 generalize aC ys=Y0 at *
 go_wp2_with fail;go_loopw [6,7,8,9] (fun av bv _ _ wr=>∃(pa pb:Option Addr) (na nb:Nat) (ea eb:List Ent) (A B:List Int),av=.slice pa na na/\bv=.slice pb nb nb/\na<=12/\nb<=12/\Hid (PR wr 170 pa na na ea A/\PR wr 170 pb nb nb eb B/\ad A=na/\ad B=nb/\Below W3.heap.size W3 wr/\GSt H A B/\(0<nb->HF H))) (fun _ bv _ _ _=>pT bv)
 case atStart=>exact⟨pa,pb,na,nb,ea,eb,X0,Y0,rfl,rfl,hna,hnb12,HI.out⟩
 case round=>
  clear HI hna hnb12;obtain⟨pa,pb,na,nb,ea,eb,A,B,rfl,rfl,hna,hnb,HR⟩:=hrel;rcases Jw nb with h0|h0
  ·have HAH:Hid (A=H):=by
    rcases HR.out.2.2.2.2.2.1 with ⟨-,h1⟩|⟨-,h1,-⟩|⟨-,h1,-⟩
    ·exact h1
    ·have:=HR.out.2.1.zl;omega
    ·have:=HR.out.2.1.zl;omega
   obtain⟨q0,q1,-,-⟩:=HL.out.1.later HR.out.2.2.2.2.1;have hsc:=fe HR.out.1 (HL.out.2.below HR.out.2.2.2.2.1) (by omega) (by decide) (by decide)
   subst h0;go_wp2_with fail;go_fit hsc;rintro r w6 ⟨p6,n6,e6,rfl,h6,hf6,ht6,hb6⟩;have HFI:Hid (PrP (tr (H.map (cc * ·))) 341 w (.returned (.slice p6 n6 n6)) w6):=by
    rw[<-HAH.out];have hBw:=ae HB3.out HR.out.2.2.2.2.1;exact⟨p6,n6,e6,rfl,h6,fun a ha=>JA hBw.size (hf6 a ha),ht6,ae hBw hb6⟩
   clear hsc h6 hf6 ht6 hb6 q0 q1;go_wp2;go_ret;rw[HCC.out];exact HFI.out
  ·have hps:=DS (HR.out.2.2.2.2.2.2 h0) HR.out.1 HR.out.2.1 HR.out.2.2.1 HR.out.2.2.2.1 hna hnb h0 HR.out.2.2.2.2.2.1
   go_wp2_with fail;go_fit hps;rintro r w6 ⟨pq,pr,nq,nr,er,rz,rfl,hr,hrt,hlt,hst,hb6⟩;clear hps;have hpp:=ni hr hrt (by omega) (by decide) (by decide)
   go_wp2_with fail;go_fit hpp;rintro r w7 ⟨p7,n7,e7,rfl,h7,-,ht7,hb7⟩;clear hpp;have hn7:n7=nr:=by have h1:=h7.zl;rw[cW,List.length_map,hr.zl] at h1;omega
   have HN:Hid (PR w7 170 pb nb nb eb B/\PR w7 170 p7 n7 n7 e7 (aC rz)/\ad B=nb/\ad (aC rz)=n7/\Below W3.heap.size W3 w7/\GSt H B (aC rz)/\(0<n7->HF H)):=⟨HR.out.2.1.below (ae hb6 hb7),h7,HR.out.2.2.2.1,ht7,ae HR.out.2.2.2.2.1 (ae hb6 hb7),hst,fun _=>HR.out.2.2.2.2.2.2 h0⟩
   have hn7':n7<nb:=by omega
   clear hr hrt hst hb6 h7 ht7 hb7 HR hlt hn7;go_wp2;refine⟨⟨pb,p7,nb,n7,eb,e7,B,aC rz,rfl,rfl,hnb,by omega,HN.out⟩,?_⟩
   simp[pT];omega
variable {B C K L:Nat} {zs:List Int}
theorem kh(h:PB B w K p n es zs)(hb:PB C w L q m fs ys)(hm:1<=m)(hmn:m<=n)(hn:n<=12)(hK:K<=5)(hL:L<=70):
  Calls Tryz.prog 128 #[.slice q m m,.slice p n n] w fun r w'=>∃b:Bool,r=.returned (.bool b)/\Hid (b=true<->Dvd zs ys)/\Below w.heap.size w w':=by
 obtain⟨mm,hmm⟩:∃mm,m=mm+1:=⟨m-1,by omega⟩
 obtain⟨k,hk⟩:∃k,n=mm+k:=⟨n-mm,by omega⟩
 have hpa:=h.pa (by omega)
 have hqa:=hb.pa (by omega)
 have hpb:=AJ hpa (by omega)
 have hbl:∀n,n<=12->Lib.bitLen n<=4:=by decide
 have hbl:=hbl n hn;have hdq:=Fs (zs:=zs) (ys:=ys) (m:=mm) (k:=k) (A:=5) (L:=70) (Q:=6) (D:=76) (most:=k+pb zs+Lib.bitLen n) (by omega) (fun t=>Int.lt_of_lt_of_le (hpa.gbd t) (aW hK)) (fun t=>Int.lt_of_lt_of_le (hqa.gbd t) (aW hL)) (by omega) (by decide) (by decide)
 rw[<-hk] at hdq
 have hyt:gx ys mm≠0:=by
  have h9:=aw ys (by rw[hb.nrm];omega)
  rw[hb.nrm] at h9
  rwa [show m-1=mm by omega] at h9
 have hzt:gx zs (n-1)≠0:=by
  have h9:=aw zs (by rw[h.nrm];omega)
  rwa [h.nrm] at h9
 have HD:=BJ (zs:=zs) (ys:=ys) (m:=mm) (k:=k) (n:=n) (by omega) (by omega) (by omega) hk h.zl (by rw[hb.zl];exact hmm) hyt hzt
 subst hmm;refine(yk h hb hk (by omega) (by omega) (by omega) (by omega) 77 (by decide) hdq).mono ?_
 rintro r w' ⟨b,hr,hg,hbl⟩;refine⟨b,hr,?_,hbl⟩;show b=true<->Dvd zs ys
 rw[hg.out];exact⟨HD.1,fun⟨q,hq⟩=>(HD.2 q hq).1⟩
def eK(w:World)(g:Nat)(p:Option Addr)(n:Nat)(u:Ent):Prop:=w.heap[g]?=some (.cells #[.slice p n n,.bool u.s,.slice u.p u.n u.c] 140 (0,0))
section
variable {w w':World} {g n:Nat} {p:Option Addr} {u:Ent}
theorem eK.lt(h:eK w g p n u):g<w.heap.size:=(Array.getElem?_eq_some_iff.1 h).1
theorem eK.below{B:Nat}(h:eK w g p n u)(hb:Below B w w')(hg:g<B):eK w' g p n u:=(hb.block g hg).trans h
theorem eK.c0(h:eK w g p n u):w.cell? ⟨g,0,none⟩=some (.slice p n n):=by simp only[World.cell?];rw[h];rfl
theorem eK.c1(h:eK w g p n u):w.cell? ⟨g,1,none⟩=some (.bool u.s):=by simp only[World.cell?];rw[h];rfl
theorem eK.c2(h:eK w g p n u):w.cell? ⟨g,2,none⟩=some (.slice u.p u.n u.c):=by simp only[World.cell?];rw[h];rfl
theorem eK.fz(h:eK w g p n u)(j:Nat):w.frozen? ⟨g,j,none⟩=false:=frozen_of_row w g j _ 140 h
end
theorem oz(n:Nat)(w:World)(hn:n<=1000):
  Calls Tryz.prog 129 #[.int .i64 n] w fun r w'=>∃(g gE:Nat) (u:Ent),r=.returned (.pointer (some ⟨g,0,none⟩))/\eK w' g (some ⟨gE,0,none⟩) n u/\bA w' gE 50 (ezs n)/\NV w.heap.size w' 2 1 u/\w.heap.size<=g/\w.heap.size<=gE/\g≠gE/\Below w.heap.size w w':=by
 have hmk:=mg n (by omega)
 have hof:=fun(v:World)=>Dn 1 v (by decide) (by decide)
 go_enter Tryz.func129,Tryz.ntmps129;go_wp2_with fail;go_region_with (go_at_call 68;go_fit (hof _);rintro r v1 ⟨u,rfl,hN1,hb1⟩)
 ·have hb0:Below w.heap.size w v1:=ae (ag (Jt _ _)) (aQ hb1)
  have hR:bA v1 w.heap.size 50 (ezs n):=(bA.new w 50 (ezs n)).below (aQ hb1) (by simp)
  have hI:eK (v1.alloc (.cells #[.slice (some ⟨w.heap.size,0,none⟩) n n,.bool u.s,.slice u.p u.n u.c] 140)) v1.heap.size (some ⟨w.heap.size,0,none⟩) n u:=heap_alloc_new v1 _;have hl:=hb0.size;have hlt:=hR.lt;have hN2:NV w.heap.size v1 2 1 u:=hN1.mono (by simp)
  have HF:=(show Hid _ from hI)
  clear hN1 hb1 hI hmk hof;go_wp2;go_ret;exact⟨v1.heap.size,w.heap.size,u,rfl,HF.out,hR.alloc _,hN2.below (ag (Jt _ _)),hl,Jr _,by omega,ae hb0 (ag (Jt _ _))⟩
 ·have hb0:Below w.heap.size w v1:=aQ hb1
  have hI:eK ((v1.alloc (.cells (ca2 (ezs n)) 50)).alloc (.cells #[.slice (some ⟨v1.heap.size,0,none⟩) n n,.bool u.s,.slice u.p u.n u.c] 140)) (v1.heap.size+1) (some ⟨v1.heap.size,0,none⟩) n u:=by
   have:=heap_alloc_new (v1.alloc (.cells (ca2 (ezs n)) 50)) (.cells #[.slice (some ⟨v1.heap.size,0,none⟩) n n,.bool u.s,.slice u.p u.n u.c] 140);rw[Js] at this
   exact this
  have hl:=hb0.size;have hN2:NV w.heap.size v1 2 1 u:=hN1;have hR:=bA.new v1 50 (ezs n);have HF:=(show Hid _ from hI)
  clear hN1 hb1 hI hmk hof;go_wp2;go_ret;exact⟨v1.heap.size+1,v1.heap.size,u,rfl,HF.out,hR.alloc _,(hN2.below (ag (Jt _ _))).below (ag (Jt _ _)),by omega,hl,by omega,ae hb0 (ag (ag (Jt _ _)))⟩
def kn(ops:Array Oper)(N:Nat):Bool:=decide (ops.size=N)||(decide (ops.size=N+1)&&(match ops[N]? with|some o=>o.guard.isNone|none=>false)&&(List.range N).all fun j=>waits ops N j||(List.range N).any fun k=>waits ops N k&&waits ops k j)
variable {id:Nat} {W:World}
theorem xJ{P:Program}{ops:Array Oper}{Q:Exit->Act->World->Prop}{a0:Act}(N:Nat)(dl:List (Nat×Nat))(al:List Nat)(gl:List (Nat×Bool))(ans:List Ax)(hm:P.follows .mixedOrders=true)(ha:nR ops=true)(hop:t_ ops dl gl N=true)(hgl:z_ ans gl)(hl:kn ops N=true)(hf:(dl.map Prod.fst).Nodup)(hs:(dl.map Prod.snd).Nodup)(hz:(dl.all fun x=>decide (x.2<a0.tmps.size)&&decide (x.1<N))=true)
  (hstep:o7 (rQ P Q W ops a0.tmps dl al ans) N 0 ops.toList)
  (hend:∀(vals:Nat->Value) (w:World),Below W.heap.size W w->(∀x∈dl,(ans.getD x.1 default).is (XA dl al vals x.1) (vals x.1) w)->Ends P Q ops N ⟨dl.foldl (fun t x=>t.setIfInBounds x.2 (vals x.1)) a0.tmps,a0.defers⟩ w):(Code.region id ops true).wp P Q a0 W:=by
 have hz':∀x∈dl,x.2<a0.tmps.size/\x.1<N:=fun x hx=>by simpa using List.all_eq_true.1 hz x hx
 have hNs:N<=ops.size:=by
  unfold kn at hl
  simp only[Bool.or_eq_true,Bool.and_eq_true,decide_eq_true_eq] at hl
  omega
 have hNu:ops.size<=N+1:=by
  unfold kn at hl
  simp only[Bool.or_eq_true,Bool.and_eq_true,decide_eq_true_eq] at hl
  omega
 have hall:∀(listed:Array Bool) (vals:Nat->Value) (l:List (Nat×Nat)) (t:Array Value),(∀x∈l,listed.getD x.1 false=true)->lay listed vals l t=l.foldl (fun t x=>t.setIfInBounds x.2 (vals x.1)) t:=by
  intro listed vals l;induction l with
  |nil=>intro t _;rfl
  |cons x l ih=>
   intro t h;obtain⟨i,d⟩:=x;rw[lay,if_pos (h (i,d) (by simp)),ih _ fun y hy=>h y (by simp[hy])]
   rfl
 have tf:∀{l:Array Bool} {i:Nat},i<l.size->l.getD i true=l.getD i false:=fun {l i} hi=>by simp[hi]
 have hin:∀{i:Nat} {o:Oper},ops[i]?=some o->i<ops.size:=fun ho=>(Array.getElem?_eq_some_iff.1 ho).1
 have hxa:∀(listed:Array Bool) (vals:Nat->Value) (i b:Nat),XA dl al vals i b->(∀x∈dl,listed.getD x.1 false=true)->XS dl al listed vals i b:=fun listed vals i b ⟨y,h1,h2,h3,h4⟩ h=>⟨y,h1,h2,h y h1,h3,h4⟩
 refine qy hm (fun listed a w=>listed.size=ops.size/\(∀i o,ops[i]?=some o->listed.getD i false=true->∀e∈o.after,Region.binds .any e=true->listed.getD e.on false=true)/\(if listed.getD N false=true then Q .normal a w else Below W.heap.size W w/\∃vals,a=⟨lay listed vals dl a0.tmps,a0.defers⟩/\(∀x∈dl,listed.getD x.1 false=true->(ans.getD x.1 default).is (XS dl al listed vals x.1) (vals x.1) w)/\∀x∈dl,listed.getD x.1 false=true->al.contains x.1=true->∃b,vals x.1=.pointer (some ⟨b,0,none⟩)/\W.heap.size<=b/\b<w.heap.size)) ha ?_ ?_ ?_
 ·rintro listed a w ⟨h1,h2,h3⟩ hlst
  split at h3
  ·exact h3
  ·rename_i hn
   have hsz:ops.size=N:=by
    rcases Ju N ops.size with h|h
    ·exact absurd (by rw[<-tf (by omega)];exact hlst N h) hn
    ·omega
   obtain⟨hb,vals,rfl,hv,hva⟩:=h3;have h5:∀x∈dl,listed.getD x.1 false=true:=fun x hx=>by
    rw[<-tf (by have:=(hz' x hx).2;omega)]
    exact hlst x.1 (by have:=(hz' x hx).2;omega)
   have:=(hend vals w hb fun x hx=>(ans.getD x.1 default).sub (hv x hx (h5 x hx)) fun b hb'=>hxa listed vals x.1 b hb' h5).out
   rw[o0,Array.getElem?_eq_none (by omega)] at this
   rw[hall listed vals dl _ h5];exact this
 ·rintro listed a w ⟨h1,h2,h3⟩ i o ho hi hdep
  have hi':listed.getD i false=false:=by rw[<-tf (by rw[h1];exact hin ho)];exact hi
  have hlN:∀j,j<N->ops.size=N+1->waits ops N j=true\/∃k,waits ops N k=true/\waits ops k j=true:=fun j hj hsz=>by
   unfold kn at hl
   simp only[Bool.or_eq_true,Bool.and_eq_true,decide_eq_true_eq] at hl
   rcases hl with h|⟨_,h⟩
   ·omega
   ·have h8:=List.all_eq_true.1 h j (List.mem_range.2 hj)
    rcases Bool.or_eq_true_iff.1 h8 with h9|h9
    ·exact .inl h9
    ·obtain⟨k,-,hk⟩:=List.any_eq_true.1 h9
     exact .inr ⟨k,Bool.and_eq_true_iff.1 hk⟩
  have hNn:listed.getD N false=false:=by
   cases hc:listed.getD N false with
   |false=>rfl
   |true=>
    exfalso;have hNlt:N<ops.size:=by
     rcases Ju N ops.size with h|h
     ·exact h
     ·simp[Array.getElem?_eq_none (show listed.size<=N by omega)] at hc
    rcases Ju i N with h|h
    ·have hdn:∀k j,waits ops k j=true->listed.getD k false=true->listed.getD j false=true:=fun k j hw hc=>by
      obtain⟨o',ho',e,he,h4,h5⟩:=eV hw;rw[<-h4];exact h2 k o' ho' hc e he h5
     have:=(hlN i h (by omega)).elim (fun h=>hdn _ _ h hc) fun⟨k,k1,k2⟩=>hdn _ _ k2 (hdn _ _ k1 hc)
     rw[hi'] at this
     cases this
    ·have:=hin ho
     obtain rfl:i=N:=by omega
     rw[hi'] at hc
     cases hc
  have hne:∀x:Nat,listed.getD x false=true->x≠i:=fun x hx e=>by
   rw[e,hi'] at hx
   cases hx
  have hcl:∀k o',ops[k]?=some o'->(listed.setIfInBounds i true).getD k false=true->∀e∈o'.after,Region.binds .any e=true->(listed.setIfInBounds i true).getD e.on false=true:=by
   intro k o' ho' hk e he hbn;have hup:∀x,listed.getD x false=true->(listed.setIfInBounds i true).getD x false=true:=fun x hx=>by
    have hxi:=hne x hx;simpa [Array.getElem?_setIfInBounds,Ne.symm hxi] using hx
   by_cases hki:k=i
   ·subst hki
    rw[ho] at ho'
    cases ho'
    exact hup _ (hdep e he hbn)
   ·exact hup _ (h2 k o' ho' (by simpa [Array.getElem?_setIfInBounds,Ne.symm hki] using hk) e he hbn)
  rw[if_neg (by rw[hNn];decide)] at h3
  obtain⟨hb,vals,rfl,hv,hva⟩:=h3;unfold wpOp;simp only[ho];rcases Ju i N with hiN|hiN
  ·obtain⟨hg,d,hd,hmem⟩:=jR hop i hiN o ho
   have hst:=mF _ 0 hstep i o (by simpa using ho) (by omega)
   rw[Nat.zero_add] at hst
   have hdp:∀j e,(j,e)∈dl->waits ops i j=true->listed.getD j false=true/\(ans.getD j default).is (XS dl al listed vals j) ((lay listed vals dl a0.tmps).getD e undef) w:=fun j e hje hw=>by
    obtain⟨o',ho',x,hx,hxj,hbn⟩:=eV hw;rw[ho] at ho'
    cases ho'
    have hlj:listed.getD j false=true:=by rw[<-hxj];exact hdep x hx hbn
    refine⟨hlj,?_⟩;rw[wO listed vals j e hlj dl _ hs hje (hz' (j,e) hje).1];exact hv (j,e) hje hlj
   have hst':=hst ⟨lay listed vals dl a0.tmps,a0.defers⟩ w (XS dl al listed vals i) ⟨hb,fun c ⟨y,g1,g2,g3,g4,g5⟩=>by
    obtain⟨b,k1,k2,k3⟩:=hva y g1 g3 g4;rw[g5] at k1
    cases k1
    exact⟨k2,k3⟩,fun j e hje hw haj=>(ans.getD j default).sub (hdp j e hje hw).2 fun b ⟨y,g1,g2,g3,g4,g5⟩=>⟨y,g1,(fun ej=>by rw[ej,haj] at g4;cases g4),g3,g4,g5⟩,
    fun j e hje hw=>(ans.getD j default).sub (hdp j e hje hw).2 fun b hb'=>False.elim hb',fun s hs'=>jA listed vals s dl _ hs',fun s k hks hw=>by
    obtain⟨o',ho',x,hx,hxj,hbn⟩:=eV hw;have hk:listed.getD k false=false:=by
     cases hc:listed.getD k false with
     |false=>rfl
     |true=>
      have:=h2 k o' ho' hc x hx hbn;rw[hxj,hi'] at this
      cases this
    exact kp listed vals k s hk dl _ hs hks,fun _=>rfl,fun _=>rfl⟩
   have hw:Region.wanted o (yielded ops (lay listed vals dl a0.tmps))=true:=by
    rcases hg with hg|⟨j,b,hg,hjb,hwj,hjN⟩
    ·simp[Region.wanted,hg]
    ·obtain⟨oj,hoj⟩:∃oj,ops[j]?=some oj:=⟨_,Array.getElem?_eq_getElem (by omega)⟩
     obtain⟨-,dj,hdj,hmj⟩:=jR hop j hjN oj hoj;have h7:=tu hgl (j,b) hjb _ _ _ (hdp j dj hmj hwj).2;have h8:dj<(lay listed vals dl a0.tmps).size:=by rw[ri];exact(hz' (j,dj) hmj).1
     have h9:(lay listed vals dl a0.tmps)[dj]?=some (.bool b):=by
      rw[Array.getElem?_eq_getElem h8];rw[Array.getD_eq_getD_getElem?,Array.getElem?_eq_getElem h8] at h7
      exact congrArg some h7
     simp[Region.wanted,hg,yielded,hoj,hdj,h9]
   rw[if_pos hw];refine .inl (Oper.wp_mono (fun a' w' hh=>?_) hst')
   obtain⟨v,rfl,hvv,hb',hal⟩:=hh;refine⟨by simpa using h1,hcl,?_⟩
   have hNi:(listed.setIfInBounds i true).getD N false=false:=by
    have:i≠N:=by omega
    simpa [Array.getElem?_setIfInBounds,this] using hNn
   rw[if_neg (by rw[hNi];decide)]
   have hlo:∀x:Nat,x≠i->(listed.setIfInBounds i true).getD x false=listed.getD x false:=fun x hx=>by simp[Array.getElem?_setIfInBounds,Ne.symm hx]
   have hXo:∀x b,x≠i->XS dl al (listed.setIfInBounds i true) (fun k=>if k=i then v else vals k) x b->XS dl al listed vals x b\/(al.contains i=true/\b=w.heap.size):=by
    rintro x b hxi ⟨y,g1,g2,g3,g4,g5⟩;by_cases hyi:y.1=i
    ·right
     have ha':al.contains i=true:=by rw[<-hyi];exact g4
     simp only[hyi,if_true] at g5
     obtain⟨e1,-⟩:=hal ha';rw[e1] at g5
     cases g5
     exact⟨ha',rfl⟩
    ·left
     rw[hlo y.1 hyi] at g3
     simp only[hyi,if_false] at g5
     exact⟨y,g1,g2,g3,g4,g5⟩
   have hXi:∀b,XS dl al (listed.setIfInBounds i true) (fun k=>if k=i then v else vals k) i b->XS dl al listed vals i b:=by
    rintro b ⟨y,g1,g2,g3,g4,g5⟩;rw[hlo y.1 g2] at g3
    simp only[g2,if_false] at g5
    exact⟨y,g1,g2,g3,g4,g5⟩
   refine⟨hb.trans (hb'.mono hb.size),fun k=>if k=i then v else vals k,?_,fun x hx hl'=>?_,fun x hx hl' hal'=>?_⟩
   ·rw[tX listed vals i d v hi dl _ hf hs hmem,hd]
    rfl
   ·by_cases hxi:x.1=i
    ·show(ans.getD x.1 default).is _ (if x.1=i then v else vals x.1) w'
     rw[if_pos hxi,hxi];exact(ans.getD i default).sub hvv hXi
    ·show(ans.getD x.1 default).is _ (if x.1=i then v else vals x.1) w'
     rw[if_neg hxi];have hl'':listed.getD x.1 false=true:=by rw[<-hlo x.1 hxi];exact hl'
     refine(ans.getD x.1 default).sub ((ans.getD x.1 default).later ((ans.getD x.1 default).add (hv x hx hl'') (Jr w.heap.size)) hb') fun b hX=>?_
     rcases hXo x.1 b hxi hX with h|⟨-,h⟩
     ·exact .inl h
     ·exact .inr h
   ·by_cases hxi:x.1=i
    ·show ∃b,(if x.1=i then v else vals x.1)=_/\_
     rw[if_pos hxi];obtain⟨e1,e2⟩:=hal (by rw[<-hxi];exact hal')
     exact⟨w.heap.size,e1,hb.size,e2⟩
    ·show ∃b,(if x.1=i then v else vals x.1)=_/\_
     rw[if_neg hxi];obtain⟨b,k1,k2,k3⟩:=hva x hx (by rw[<-hlo x.1 hxi];exact hl') hal'
     exact⟨b,k1,k2,JE k3 hb'.size⟩
  ·have:=hin ho
   obtain rfl:i=N:=by omega
   have hg:o.guard=none:=by
    unfold kn at hl
    simp only[Bool.or_eq_true,Bool.and_eq_true,decide_eq_true_eq] at hl
    rcases hl with h|⟨⟨_,h⟩,_⟩
    ·omega
    ·simpa [ho] using h
   have h5:∀x∈dl,listed.getD x.1 false=true:=fun x hx=>by
    have hd1:∀j,waits ops i j=true->listed.getD j false=true:=fun j hw=>by
     obtain⟨o',ho',e,he,h6,h7⟩:=eV hw;rw[ho] at ho'
     cases ho'
     rw[<-h6];exact hdep e he h7
    rcases hlN x.1 (hz' x hx).2 (by omega) with h9|⟨k,k1,k2⟩
    ·exact hd1 _ h9
    ·obtain⟨o',ho',e,he,h6,h7⟩:=eV k2
     rw[<-h6];exact h2 k o' ho' (hd1 k k1) e he h7
   have he:=(hend vals w hb fun x hx=>(ans.getD x.1 default).sub (hv x hx (h5 x hx)) fun b hb'=>hxa listed vals x.1 b hb' h5).out
   rw[o0,ho] at he
   have hw:Region.wanted o (yielded ops (lay listed vals dl a0.tmps))=true:=by simp[Region.wanted,hg]
   rw[if_pos hw,hall listed vals dl _ h5];refine .inl (Oper.wp_mono (fun a' w' hh=>?_) he)
   refine⟨by simpa using h1,hcl,?_⟩
   have:(listed.setIfInBounds i true).getD i false=true:=by simp[h1,hin ho]
   rw[if_pos this];exact hh
 ·have hno:∀j,(Array.replicate ops.size false).getD j false=false:=fun j=>by
   simp[Array.getElem?_replicate];split<;>simp
  refine⟨by simp,fun i o ho h=>?_,?_⟩
  ·rw[hno] at h
   cases h
  ·rw[if_neg (by rw[hno];decide)]
   refine⟨⟨rfl,rfl,rfl,Jr _,fun _ _=>rfl⟩,fun _=>undef,?_,fun x hx hl'=>?_,fun x hx hl'=>?_⟩
   ·have hnone:∀(l:List (Nat×Nat)) (t:Array Value),lay (Array.replicate ops.size false) (fun _=>undef) l t=t:=by
     intro l;induction l with
     |nil=>intro t;rfl
     |cons x l ih=>
      intro t;obtain⟨i,e⟩:=x;rw[lay,if_neg (by rw[hno];decide),ih]
    rw[hnone]
   ·rw[hno] at hl'
    cases hl'
   ·rw[hno] at hl'
    cases hl'
end Go.Proofs.YtdjjlghlcffflaaGreatDoor
