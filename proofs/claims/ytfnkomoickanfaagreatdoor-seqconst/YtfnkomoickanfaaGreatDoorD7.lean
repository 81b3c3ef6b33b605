/- Own. -/
import Derived.Test.YtfnkomoickanfaaGreatDoorAf
set_option linter.unusedVariables false
set_option linter.unusedSimpArgs false
set_option maxHeartbeats 8000000
set_option maxRecDepth 100000
namespace Go.Proofs.YtfnkomoickanfaaGreatDoor
open Go.RowKit
def ned(r:Int)(ls:List Int):Int:=ls.foldl (fun n x=>if n<x+(r+1) then x+(r+1) else n) r
theorem Av(r:Int)(ls:List Int)(j:Nat)(hj:j<ls.length):ned r (ls.take (j+1))=if ned r (ls.take j)<gx ls j+(r+1) then gx ls j+(r+1) else ned r (ls.take j):=by
 have e:ls.take (j+1)=ls.take j++[gx ls j]:=by
  rw[bX ls j hj,List.take_append_getElem]
 rw[e]
 unfold ned
 rw[List.foldl_append]
 rfl
structure NeI(w wr:World)(g M:Nat)(q:Option Addr)(m c:Nat)(fs:List Ent)(ys:List Int)(k:Int)(u:Ent):Prop where
 bx:wr.heap[g]?=some (.cells #[.bool u.s,.slice u.p u.n u.c] 43 (0,0))
 re:RE wr (M+5) k u
 pr:PR wr M q m c fs ys
 oq:0<m→Off g q
 rh:wr.heap[w.heap.size]?=some (.cells #[.bool false,.slice none 0 0] 43 (0,0))
 lt:w.heap.size<g
 bw:Below w.heap.size w wr
theorem NeI.later{w wr w':World}{g M:Nat}{q:Option Addr}{m c:Nat}{fs:List Ent}{ys:List Int}{k:Int}{u:Ent}(h:NeI w wr g M q m c fs ys k u)(hb:Below wr.heap.size wr w'):NeI w w' g M q m c fs ys k u:=by
 have hlt:g<wr.heap.size:=(Array.getElem?_eq_some_iff.1 h.bx).1
 exact⟨(hb.block g hlt).trans h.bx,h.re.below hb,h.pr.below hb,h.oq,(hb.block _ (by have:=h.lt;omega)).trans h.rh,h.lt,ae h.bw hb⟩
theorem NeI.box{w wr:World}{g M:Nat}{q:Option Addr}{m c:Nat}{fs:List Ent}{ys:List Int}{k:Int}{u:Ent}(h:NeI w wr g M q m c fs ys k u):Bx wr g (.bool u.s) (.slice u.p u.n u.c):=
 ⟨by rw[cell_of_row wr g 0 _ _ _ h.bx];rfl,by rw[cell_of_row wr g 1 _ _ _ h.bx];rfl,frozen_of_row wr g 0 _ _ h.bx,frozen_of_row wr g 1 _ _ h.bx⟩
theorem NeI.put{w wr:World}{g M:Nat}{q:Option Addr}{m c:Nat}{fs:List Ent}{ys:List Int}{k x:Int}{u s:Ent}(h:NeI w wr g M q m c fs ys k u)(hs:RE wr (M+5) x s):NeI w ((wr.setCell ⟨g,0,none⟩ (.bool s.s)).setCell ⟨g,1,none⟩ (.slice s.p s.n s.c)) g M q m c fs ys x s:=by
 have h1:=heap_setCell_same wr g 0 _ _ (.bool s.s) h.bx
 have h2:=heap_setCell_same _ g 1 _ _ (.slice s.p s.n s.c) h1
 refine⟨h2,hs.eL (hs.wP h.bx),h.pr.gset h.oq (fun j hj=>(h.pr.ev j hj).wP h.bx),h.oq,?_,h.lt,c8 h.bw (by have:=h.lt;omega) _ _⟩
 rw[heap_setCell_other _ _ _ _ (by have:=h.lt;show w.heap.size≠g;omega),heap_setCell_other _ _ _ _ (by have:=h.lt;show w.heap.size≠g;omega)]
 exact h.rh
theorem yE{w:World}{B T N E D K L:Nat}{l:List (List Int)}{h:Hdr}(H:HR D (EY N E) w B T l h)(hT:T≤w.heap.size)(hD:D≤100)(hl:0<l.length)(nz:∃t,gx (gt l (l.length-1)) t≠0)(n30:E≤30)(nN:N≤60)(N4:4≤N)(L9:L≤40)(K2:2≤K)(bd:∀i,((gx (gt l (l.length-1)) i).natAbs:Int)<pw K)(sz:K+1+E*(L+1)+L≤40)(hB:pb (gt l (l.length-1))≤38)(hL:(2:Int)^(pb (gt l (l.length-1))+1)+1<pw L):
  Calls Tryz.prog 34 #[.slice h.p h.n h.c] w fun r w'=>∃u:Ent,r=.returned (.agg #[.bool u.s,.slice u.p u.n u.c])∧RE w' (2*L+10) (ned ((l.length:Int)-1) (rts (gt l (l.length-1)) 0 ((2:Int)^(pb (gt l (l.length-1))+1)+1-0).toNat)) u∧Below w.heap.size w w':=by
 generalize hz:gt l (l.length-1)=zs at *
 have hll:l.length=h.n∧h.n≤D:=by obtain⟨_,k⟩:=H;exact⟨k.tl,k.few⟩
 rw[hll.1]
 rw[hll.1] at hl
 have HX:Hid (HR D (EY N E) w B T l h∧T≤w.heap.size∧(∃t,gx zs t≠0)∧(∀i,((gx zs i).natAbs:Int)<pw K)∧pb zs≤38∧(2:Int)^(pb zs+1)+1<pw L∧K+1+E*(L+1)+L≤40∧gt l (l.length-1)=zs):=⟨H,hT,nz,bd,hB,hL,sz,hz⟩
 have hnD:=hll.2
 clear H hT nz bd hB hL sz hz hll
 generalize hrt:rts zs 0 ((2:Int)^(pb zs+1)+1-0).toNat=ys at *
 go_enter Tryz.func34,Tryz.ntmps34
 go_wp2_with fail
 have hbw:Below w.heap.size w (w.alloc (.cells #[.bool false,.slice none 0 0] 43)):=af (Below.refl _ _)
 have hb0:(w.alloc (.cells #[.bool false,.slice none 0 0] 43)).heap[w.heap.size]?=some (.cells #[.bool false,.slice none 0 0] 43 (0,0)):=cV w _
 have hsz0:w.heap.size<(w.alloc (.cells #[.bool false,.slice none 0 0] 43)).heap.size:=by rw[World.size_alloc];omega
 generalize w.alloc (.cells #[.bool false,.slice none 0 0] 43)=W at *
 refine(eC W h.p h.n h.c (by omega)).mono ?_
 rintro r w1 ⟨rfl,rfl⟩
 go_wp2_with fail
 refine(gZ ((h.n:Int)-1) w1 (by omega) (by omega)).mono ?_
 rintro r w2 ⟨u,rfl,hu,hFu,hb2⟩
 have hH2:=(bK (bJ N E)).below HX.out.1 HX.out.2.1 (af (o:=.cells #[.bool u.s,.slice u.p u.n u.c] 43) (ae hbw hb2))
 have hld:=wV hH2 (by omega)
 rw[HX.out.2.2.2.2.2.2.2] at hld
 go_wp2_with fail
 refine hld.mono ?_
 rintro r w3 ⟨hd,rfl,⟨fs,hP,hcn,htl,hnE,-,-⟩,rfl⟩
 have hna:=ud (K:=K) (L:=L) hP HX.out.2.2.1 (by omega) nN N4 L9 K2 HX.out.2.2.2.1 (by have h9:=Nat.mul_le_mul_right (L+1) hnE;have:=HX.out.2.2.2.2.2.2.1;omega) HX.out.2.2.2.2.1 HX.out.2.2.2.2.2.1
 unfold NaP at hna
 rw[hrt] at hna
 clear hld
 go_wp2_with fail
 refine hna.mono ?_
 rintro r w4 ⟨v,es1,rfl,hLR,-,hb4⟩
 obtain⟨q,cap,hvq,hPR,hFq⟩:=hLR.pr
 subst hvq
 have hgl:w2.heap.size<(w2.alloc (.cells #[.bool u.s,.slice u.p u.n u.c] 43)).heap.size:=by rw[World.size_alloc];omega
 have HN:Hid (NeI w w4 w2.heap.size (2*L+5) q es1.length cap es1 ys ((h.n:Int)-1) u):=by
  refine⟨(hb4.block _ hgl).trans (cV w2 _),((hu.below (af (Below.refl _ _))).below hb4).wide (by omega),?_,fun _ a ha=>?_,(hb4.block _ (by have:=hb2.size;omega)).trans (((af (o:=.cells #[.bool u.s,.slice u.p u.n u.c] 43) (Below.refl w2.heap.size w2)).block _ (by have:=hb2.size;omega)).trans ((hb2.block _ hsz0).trans hb0)),by have:=hb2.size;omega,ae (af (ae hbw hb2)) hb4⟩
  ·exact⟨hPR.el,hPR.zl,hPR.cap,hPR.bnd,hPR.pl,fun j hj=>(hPR.ev j hj).wide (by omega)⟩
  ·have:=hFq a ha
   omega
 have hpl:es1.length≤1099511627776:=by
  have h1:=mA zs 0 ((2:Int)^(pb zs+1)+1-0).toNat
  have h2:=hPR.zl
  have h3:=zo (k:=pb zs+1) (by have:=HX.out.2.2.2.2.1;omega)
  have h4:(0:Int)<(2:Int)^(pb zs+1):=Int.pow_pos (by decide)
  rw[hrt] at h1
  omega
 generalize w2.heap.size=g at *
 generalize hml:es1.length=m at *
 clear hbw hb0 hsz0 hu hFu hb2 hH2 hP hcn htl hnE hna hLR hb4 hPR hFq hgl
 go_wp2_with fail
 go_loopw [6] (fun iv wr=>∃(j:Nat) (k:Ent),j≤m∧iv=.int .i64 (j:Int)∧Hid (NeI w wr g (2*L+5) q m cap es1 ys (ned ((h.n:Int)-1) (ys.take j)) k)) (fun iv _=>m-(intOf iv).toNat)
 case atStart=>exact⟨0,u,Nat.zero_le _,by go_num,by rw[List.take_zero];exact HN.out⟩
 case round=>
  obtain⟨j,k,hj,rfl,I⟩:=hrel
  rcases Nat.lt_or_ge j m with hlt|hge
  ·have hP:=I.out.pr
   obtain⟨b0,o0,hp,hc⟩:=hP.pl (by have:=hP.el;omega)
   subst hp
   obtain⟨c0,c1⟩:=hc j (by have:=hP.el;omega)
   have hx:=hP.ev j hlt
   have i1:(j:Int)<(m:Int):=by omega
   have vw:IntKind.i64.wrap (h.n:Int)=(h.n:Int):=by rw[IntKind.wrap_i64];omega
   clear hc hP
   go_wp2_with fail
   go_cut [7] (fun kv w3=>∃(gk:Nat) (s:Ent),kv=.pointer (some ⟨gk,0,none⟩)∧Hid (NeI w w3 g (2*L+5) (some ⟨b0,o0,none⟩) m cap es1 ys (ned ((h.n:Int)-1) (ys.take j)) k∧Bx w3 gk (.bool s.s) (.slice s.p s.n s.c)∧RE w3 (2*L+10) (gx ys j+(h.n:Int)) s∧gk≠g))
   case first=>
    go_region_held3 (fun w'=>w'.cell? ⟨b0,o0+j*2,none⟩=some (.bool (ge es1 j).s)∧w'.cell? ⟨b0,o0+j*2+1,none⟩=some (.slice (ge es1 j).p (ge es1 j).n (ge es1 j).c)) (first|with_reducible exact⟨c0,c1⟩|(refine dO ⟨c0,c1⟩ ?_;(repeat (first|(with_reducible exact hB1)|(with_reducible exact hB2)|(with_reducible exact Below.refl _ _)|(refine c8 ?_ (by first|with_reducible exact Nat.le_refl _|exact hB1.size|exact hB2.size) _ _)|(refine rC ?_ (Nat.le_refl _))|(refine Below.drew ?_)));done))
     (first
      |(go_at_call 21;go_fit (gZ (h.n:Int) _ (by omega) (by omega));rintro r v1 ⟨y,rfl,hy,-,hb1⟩;have hB1:=comp (X2:=wr) (w2:=wr) (Below.refl _ _) (by(repeat apply af);exact Below.refl _ _) (aC hb1);(first|(have zz:Bx v1 wr.heap.size (.bool false) (.slice none 0 0):=(Bx.new (w:=wr) (.bool false) (.slice none 0 0) 43 rfl).later (aC hb1))|skip))
      |(go_at_call 55;go_fit (ft ((hx.below hB1).below (by(repeat apply af);exact Below.refl _ _)) (hy.below (by(repeat apply af);exact Below.refl _ _)) (by omega) (by decide));rintro r v2 ⟨s,rfl,hs,hFs,hb2⟩;have hB2:=comp hB1 (by(repeat apply af);exact Below.refl _ _) hb2;(first|(have zz:Bx v2 v1.heap.size (.bool false) (.slice none 0 0):=(Bx.new (w:=v1) (.bool false) (.slice none 0 0) 43 rfl).later hb2)|(have zz:=Bx.later zz hb2)|skip);(try obtain⟨z0,z1,z2,z3⟩:=id zz)))
    all_goals (go_wp2_with fail;go_meet)
    all_goals
     have hgw:g<wr.heap.size:=(Array.getElem?_eq_some_iff.1 I.out.bx).1
     have q1:=hB1.size
     have q2:=hB2.size
    ·exact⟨_,s,rfl,I.out.later (af hB2),Bx.new _ _ _ rfl,hs.below (af (Below.refl _ _)),by omega⟩
    ·exact⟨_,s,rfl,I.out.later (c8 hB2 (by omega) _ _),dI zz,hs.eL (fun _ a ha=>by have h9:=hFs a ha;rw[World.size_alloc] at h9;omega),by omega⟩
    ·exact⟨_,s,rfl,I.out.later (c8 hB2 (Nat.le_refl _) _ _),dI zz,hs.eL (fun _ a ha=>by have h9:=hFs a ha;have h8:=(aC hb1).size;rw[World.size_alloc] at h8;omega),by omega⟩
   case rest=>
    obtain⟨gk,s,hv7,J⟩:=hcut
    subst hv7
    have hnt:=Av ((h.n:Int)-1) ys j (by have:=I.out.pr.zl;omega)
    rw[show gx ys j+((h.n:Int)-1+1)=gx ys j+(h.n:Int) by omega] at hnt
    generalize gx ys j+(h.n:Int)=x at *
    generalize ned ((h.n:Int)-1) (ys.take j)=y at *
    obtain⟨b0',b1',-,-⟩:=id J.out.1.box
    obtain⟨s0,s1,-,-⟩:=id J.out.2.1
    have hcm:=lL J.out.2.2.1 J.out.1.re (by omega) (by omega)
    clear c0 c1 hx vw I
    go_wp2_with fail
    refine hcm.mono ?_
    rintro r w5 ⟨rfl,hb5⟩
    have hJ:=J.out.1.later hb5
    have hs5:=J.out.2.2.1.below hb5
    obtain⟨t0,t1,-,-⟩:=J.out.2.1.later hb5
    obtain⟨v0,v1,v2,v3⟩:=hJ.box
    rcases(show y<x∨x<y∨x=y by omega) with h0|h0|h0
    ·rw[cr h0]
     rw[if_pos h0] at hnt
     have HJ:Hid (NeI w ((w5.setCell ⟨g,0,none⟩ (.bool s.s)).setCell ⟨g,1,none⟩ (.slice s.p s.n s.c)) g (2*L+5) (some ⟨b0,o0,none⟩) m cap es1 ys (ned ((h.n:Int)-1) (ys.take (j+1))) s):=by
      rw[hnt]
      exact hJ.put hs5
     clear hJ hs5 J hnt h0 hcm b0' b1' s0 s1 hb5
     go_wp2
     go_roundw
     case rel=>exact⟨j+1,s,by omega,by go_num,HJ.out⟩
     case measure=>simp[intOf];omega
    ·rw[bC h0]
     rw[if_neg (by omega)] at hnt
     have HJ:Hid (NeI w w5 g (2*L+5) (some ⟨b0,o0,none⟩) m cap es1 ys (ned ((h.n:Int)-1) (ys.take (j+1))) k):=by
      rw[hnt]
      exact hJ
     clear hJ hs5 J hnt h0 hcm b0' b1' s0 s1 hb5 t0 t1 v0 v1 v2 v3
     go_wp2
     go_roundw
     case rel=>exact⟨j+1,k,by omega,by go_num,HJ.out⟩
     case measure=>simp[intOf];omega
    ·rw[h0,c5]
     rw[if_neg (by omega)] at hnt
     have HJ:Hid (NeI w w5 g (2*L+5) (some ⟨b0,o0,none⟩) m cap es1 ys (ned ((h.n:Int)-1) (ys.take (j+1))) k):=by
      rw[hnt]
      exact hJ
     clear hJ hs5 J hnt h0 hcm b0' b1' s0 s1 hb5 t0 t1 v0 v1 v2 v3
     go_wp2
     go_roundw
     case rel=>exact⟨j+1,k,by omega,by go_num,HJ.out⟩
     case measure=>simp[intOf];omega
  ·obtain rfl:j=m:=by omega
   have hbx:=I.out.box
   have hlg:=I.out.lt
   obtain⟨b0,b1,-,-⟩:=id hbx
   have r0:wr.cell? ⟨w.heap.size,0,none⟩=some (.bool false):=by rw[cell_of_row wr _ 0 _ _ _ I.out.rh];rfl
   have r1:wr.cell? ⟨w.heap.size,1,none⟩=some (.slice none 0 0):=by rw[cell_of_row wr _ 1 _ _ _ I.out.rh];rfl
   have f0:=frozen_of_row wr w.heap.size 0 _ _ I.out.rh
   have f1:=frozen_of_row wr w.heap.size 1 _ _ I.out.rh
   have e9:ys.take j=ys:=List.take_of_length_le (by rw[I.out.pr.zl];exact Nat.le_refl _)
   have HR9:Hid (RE wr (2*L+10) (ned ((h.n:Int)-1) ys) k∧(0<k.n→Off w.heap.size k.p)∧Below w.heap.size w wr):=by
    have h1:=I.out.re
    rw[e9] at h1
    exact⟨h1,h1.wP I.out.rh,I.out.bw⟩
   clear hge e9 I
   go_wp2
   refine bodyPost_ret (v:=.agg #[.bool k.s,.slice k.p k.n k.c]) (by simp[results,Tryz.results34,go_sem,r0,r1]) rfl ⟨k,rfl,HR9.out.1.eL HR9.out.2.1,c8 HR9.out.2.2 (Nat.le_refl _) _ _⟩
theorem rL{w:World}{B T N E D K L:Nat}{l:List (List Int)}{h:Hdr}(H:HR D (EY N E) w B T l h)(hT:T≤w.heap.size)(hD:D≤1000)(i:Nat)(hi:i≤1000)(x:Int)(h0:-9223372036854775808≤x)(h1:x≤9223372036854775807)(hE:E≤1000)(hN:N≤400)(bd:∀t,((gx (gt l i) t).natAbs:Int)<pw K)(hx:(x.natAbs:Int)<pw L)(sz:K+E*(L+1)≤150)(K2:2≤K):
  Calls Tryz.prog 36 #[.slice h.p h.n h.c,.int .i64 i,.int .i64 x] w fun r w'=>∃u:Ent,r=.returned (.agg #[.bool u.s,.slice u.p u.n u.c])∧RE w' (2*(K+E*(L+1))) (evz x (gt l i)) u∧Below w.heap.size w w':=by
 have HX:Hid (HR D (EY N E) w B T l h∧T≤w.heap.size∧(∀t,((gx (gt l i) t).natAbs:Int)<pw K)∧(x.natAbs:Int)<pw L∧K+E*(L+1)≤150):=⟨H,hT,bd,hx,sz⟩
 clear H hT bd hx sz
 go_enter Tryz.func36,Tryz.ntmps36
 go_wp2_with fail
 have hbw:Below w.heap.size w (w.alloc (.cells #[.bool false,.slice none 0 0] 43)):=af (Below.refl _ _)
 have hb0:(w.alloc (.cells #[.bool false,.slice none 0 0] 43)).heap[w.heap.size]?=some (.cells #[.bool false,.slice none 0 0] 43 (0,0)):=cV w _
 have hsz0:w.heap.size<(w.alloc (.cells #[.bool false,.slice none 0 0] 43)).heap.size:=by rw[World.size_alloc];omega
 have hH1:=(bK (bJ N E)).below HX.out.1 HX.out.2.1 hbw
 generalize w.alloc (.cells #[.bool false,.slice none 0 0] 43)=W at *
 refine(s8 hH1 i (by omega) hi).mono ?_
 rintro r w1 ⟨hd,rfl,⟨fs,hP,hcn,htl,hnE,-,-⟩,rfl⟩
 go_wp2_with fail
 refine(gZ x w1 h0 h1).mono ?_
 rintro r w2 ⟨u,rfl,hu,-,hb2⟩
 have hev:=oG (K:=K) (L:=L) (hP.below hb2) hu (by omega) (by omega) (by decide) HX.out.2.2.1 HX.out.2.2.2.1 (by have h9:=Nat.mul_le_mul_right (L+1) hnE;have:=HX.out.2.2.2.2;omega) K2
 go_wp2_with fail
 refine hev.mono ?_
 rintro r w3 ⟨y,rfl,hy,hb3⟩
 have hbh:w3.heap[w.heap.size]?=some (.cells #[.bool false,.slice none 0 0] 43 (0,0)):=(hb3.block _ (by have:=hb2.size;omega)).trans ((hb2.block _ hsz0).trans hb0)
 have r0:w3.cell? ⟨w.heap.size,0,none⟩=some (.bool false):=by rw[cell_of_row w3 _ 0 _ _ _ hbh];rfl
 have r1:w3.cell? ⟨w.heap.size,1,none⟩=some (.slice none 0 0):=by rw[cell_of_row w3 _ 1 _ _ _ hbh];rfl
 have f0:=frozen_of_row w3 w.heap.size 0 _ _ hbh
 have f1:=frozen_of_row w3 w.heap.size 1 _ _ hbh
 have HR9:Hid (RE w3 (2*(K+E*(L+1))) (evz x (gt l i)) y∧(0<y.n→Off w.heap.size y.p)∧Below w.heap.size w w3):=⟨hy.wide (by have h9:=Nat.mul_le_mul_right (L+1) hnE;omega),hy.wP hbh,ae (ae hbw hb2) hb3⟩
 clear hb0 hsz0 hH1 hP hcn htl hu hev hy hbh hb2 hb3 hbw
 go_wp2
 refine bodyPost_ret (v:=.agg #[.bool y.s,.slice y.p y.n y.c]) (by simp[results,Tryz.results36,go_sem,r0,r1]) rfl ⟨y,rfl,HR9.out.1.eL HR9.out.2.1,c8 HR9.out.2.2 (Nat.le_refl _) _ _⟩
open Go.ChangeShapes Go.WideShapes Go.ChangeAt Go.RowKit Go.Joins
theorem zO:Tryz.prog.cellsOf 24=2:=by kernel_rfl
theorem xP:Tryz.prog.cellsOf 132=1:=by kernel_rfl
def kU(W:World)(v:Value):Prop:=∃(s:Bool) (pa:Option Addr) (n nc:Nat) (xs:List Int),v=.agg #[.bool s,.slice pa n nc]∧xs.length=n∧n≤nc∧nc≤maxLen∧Rd W pa .u32 xs∧U32 xs∧(pa=none→nc=0)
theorem zP:Tryz.prog.cellsOf 26=4:=by kernel_rfl
theorem xO:Tryz.prog.cellsOf 4=1:=by kernel_rfl
theorem wb:Tryz.prog.cellsOf 22=1:=by kernel_rfl
theorem sw{H:Type}{enc:TypeId×Value→H}{W:World}{fuel:Nat}{v0 v1:Value}{y:DataW H×List MemPlace}
  (h:DataW.trod enc Tryz.prog W 0 (fun _=>true) true fuel 24 [v0,v1]=some y):kU W (.agg #[v0,v1]):=by
 obtain⟨y0,y1,n,hx,-,hy0,hy1⟩:=trod_struct2 Tryz.underlying24 h
 simp only[xO,wb,List.drop_zero,List.drop_succ_cons,List.take_succ_cons,List.take_zero] at hy0 hy1
 obtain⟨s,e0,-⟩:=DataW.trod_bool Tryz.underlying4 hy0
 simp only[List.cons.injEq,and_true] at e0
 subst e0
 rcases open_ints Tryz.underlying22 Tryz.underlying132 xP hy1 with ⟨hcs,-⟩|⟨a,len,cap,zs,hcs,-,hl,hm,hz,-,hcell,hwz⟩
 ·simp only[List.cons.injEq,and_true] at hcs
  subst hcs
  exact⟨s,none,0,0,[],rfl,rfl,Nat.le_refl _,Nat.zero_le _,Rd.nil,iq,fun _=>rfl⟩
 ·simp only[List.cons.injEq,and_true] at hcs
  subst hcs
  simp only[if_true] at hz
  refine⟨s,some a,len,cap,zs.take len,rfl,by simp;omega,hl,hm,?_,?_,fun h=>by cases h⟩
  ·intro hp
   have hp':0<zs.length:=by simp at hp;omega
   obtain⟨b,off,rfl,hc⟩:=ints_at hcell hp'
   refine⟨b,off,rfl,fun j hj=>?_⟩
   have hj':j<len∧j<zs.length:=by simp at hj;omega
   rw[bQ _ _ _ hj'.1]
   exact hc j hj'.2
  ·refine aj (fun j=>?_) len
   by_cases hj:j<zs.length
   ·have:=hwz zs[j] (List.getElem_mem hj)
    rw[bX zs j hj]
    have h4:0≤zs[j]∧zs[j]≤4294967295:=by
     simpa [Lit.wf,IntKind.min,IntKind.max,IntKind.signed,IntKind.bits] using this
    exact⟨h4.1,by omega⟩
   ·rw[aJ zs _ (Nat.le_refl _) j (by omega)];decide
theorem B9{H:Type}{enc:TypeId×Value→H}{W:World}{base:Nat}{v0:Value}{d0:DataW H}{p0:List MemPlace}(hv:Value.okWide Tryz.prog W .any base 26 v0)
  (h0:DataW.Trod enc Tryz.prog W 0 (fun _=>true) true 26 v0 d0 p0):∃c0 c1 c2 c3,v0=.agg #[c0,c1,c2,c3]∧kU W (.agg #[c0,c1])∧kU W (.agg #[c2,c3]):=by
 obtain⟨cs,rfl,hsz⟩:=okWide_struct Tryz.underlying26 hv
 rw[zP] at hsz
 obtain⟨l⟩:=cs
 match l,hsz with
 | [c0,c1,c2,c3],_=>
  obtain⟨fuel,hf⟩:=h0
  obtain⟨y0,y1,n,hx,-,hy0,hy1⟩:=trod_struct2 Tryz.underlying26 hf
  simp only[Value.cells,zO,List.drop_zero,List.drop_succ_cons,List.take_succ_cons,List.take_zero] at hy0 hy1
  exact⟨c0,c1,c2,c3,rfl,sw hy0,sw hy1⟩
def rdd(w:World):Option Value→Nat
 |some (.slice (some ⟨b,off,none⟩) n _)=>(vd ((List.range n).map fun j=>match w.cell? ⟨b,off+j,none⟩ with|some (.int _ x)=>x|_=>0)).toNat
 |_=>0
theorem y5{w:World}{p:Option Addr}{n c:Nat}{ds:List Int}{s:Bool}(h:RN w s p n ds):rdd w (some (.slice p n c))=(vd ds).toNat:=by
 rcases Nat.eq_zero_or_pos n with h0|h0
 ·have e:ds=[]:=List.eq_nil_of_length_eq_zero (by rw[h.len];exact h0)
  subst h0
  rw[e]
  cases p with
  |none=>rfl
  |some a=>obtain⟨b,off,r⟩:=a;cases r<;>rfl
 ·obtain⟨b,off,rfl,hc⟩:=h.rd (by rw[h.len];exact h0)
  have e:((List.range n).map fun j=>match w.cell? ⟨b,off+j,none⟩ with|some (.int _ x)=>x|_=>0)=ds:=by
   refine lA _ _ (by simp[h.len]) fun j hj=>?_
   have hj':j<n:=by simpa using hj
   rw[bX _ _ hj]
   simp only[List.getElem_map,List.getElem_range,hc j (by rw[h.len];exact hj')]
  simp only[rdd,e]
def CL(g:Nat)(N:Nat)(w:World)(e:Ending)(w':World):Prop:=
 ∃p' n' ds',e=.returned (.agg #[.bool false,.slice p' n' n'])∧RN w' false p' n' ds'∧ag false ds'=(g:Int)∧n'≤N∧Below w.heap.size w w'
def BB(V:Nat→Prop)(g:Nat)(N:Nat)(w:World)(e:Ending)(w':World):Prop:=
 ∃p' n' ds',e=.returned (.agg #[.bool false,.slice p' n' n'])∧RN w' false p' n' ds'∧ag false ds'=(g:Int)∧n'≤N∧Below w.heap.size w w'∧(0<n'→∀x,p'=some x→V x.block)
structure Gv(w wc:World)(g1 g2:Nat)(p1:Option Addr)(n1:Nat)(d1:List Int)(p2:Option Addr)(n2:Nat)(d2:List Int)(g N:Nat)(V:Nat→Prop):Prop where
 b1:Bx wc g1 (.bool false) (.slice p1 n1 n1)
 b2:Bx wc g2 (.bool false) (.slice p2 n2 n2)
 br:Bx wc (w.heap.size+1+1) (.bool false) (.slice none 0 0)
 r1:RN wc false p1 n1 d1
 r2:RN wc false p2 n2 d2
 ne:g1≠g2
 l1:w.heap.size+1+1<g1
 l2:w.heap.size+1+1<g2
 o1:0<n1→∀x,p1=some x→x.block≠g1∧x.block≠g2∧x.block≠w.heap.size+1+1
 o2:0<n2→∀x,p2=some x→x.block≠g1∧x.block≠g2∧x.block≠w.heap.size+1+1
 k1:n1≤N
 k2:n2≤N
 g:Int.gcd (vd d1) (vd d2)=g
 bl:Below w.heap.size w wc
 v1:0<n1→∀x,p1=some x→V x.block
 v2:0<n2→∀x,p2=some x→V x.block
theorem Gv.later{w wc wc':World}{g1 g2:Nat}{p1:Option Addr}{n1:Nat}{d1:List Int}{p2:Option Addr}{n2:Nat}{d2:List Int}{g N:Nat}{V:Nat→Prop}(h:Gv w wc g1 g2 p1 n1 d1 p2 n2 d2 g N V)(hb:Below wc.heap.size wc wc'):Gv w wc' g1 g2 p1 n1 d1 p2 n2 d2 g N V:=
 ⟨h.b1.later hb,h.b2.later hb,h.br.later hb,h.r1.below hb,h.r2.below hb,h.ne,h.l1,h.l2,h.o1,h.o2,h.k1,h.k2,h.g,aW h.bl (Nat.le_refl _) hb,h.v1,h.v2⟩
theorem Bx.drew{w:World}{r:Nat}{a b:Value}(h:Bx w r a b):Bx w.drew r a b:=⟨h.c0,h.c1,h.f0,h.f1⟩
theorem Gv.step{w W3:World}{g1 g2:Nat}{p1:Option Addr}{n1:Nat}{d1:List Int}{p2:Option Addr}{n2:Nat}{d2:List Int}{g N:Nat}{V:Nat→Prop}{p4:Option Addr}{n4:Nat}{d3 d4:List Int}(hV:Gv w W3 g1 g2 p1 n1 d1 p2 n2 d2 g N V)(hR:RN W3 false p4 n4 d4)
  (ho:0<n4→∀x,p4=some x→x.block≠g1∧x.block≠g2∧x.block≠w.heap.size+1+1) (hn:n4≤n2) (heq:vd d3*vd d2+vd d4=vd d1) (hv4:0<n4→∀x,p4=some x→V x.block):
  Gv w ((((W3.setCell ⟨g1,0,none⟩ (.bool false)).setCell ⟨g1,1,none⟩ (.slice p2 n2 n2)).setCell ⟨g2,0,none⟩ (.bool false)).setCell ⟨g2,1,none⟩ (.slice p4 n4 n4)).drew g1 g2 p2 n2 d2 p4 n4 d4 g N V∧
  rdd ((((W3.setCell ⟨g1,0,none⟩ (.bool false)).setCell ⟨g1,1,none⟩ (.slice p2 n2 n2)).setCell ⟨g2,0,none⟩ (.bool false)).setCell ⟨g2,1,none⟩ (.slice p4 n4 n4)).drew (((((W3.setCell ⟨g1,0,none⟩ (.bool false)).setCell ⟨g1,1,none⟩ (.slice p2 n2 n2)).setCell ⟨g2,0,none⟩ (.bool false)).setCell ⟨g2,1,none⟩ (.slice p4 n4 n4)).drew.cell? ⟨g2,1,none⟩)=(vd d4).toNat:=by
 have hne:=hV.ne
 have l1:=hV.l1
 have l2:=hV.l2
 have e1:=(cS (x:=.bool false) (y:=.slice p4 n4 n4) (dI (x:=.bool false) (y:=.slice p2 n2 n2) hV.b1) hne).drew
 have e2:=(dI (x:=.bool false) (y:=.slice p4 n4 n4) (cS (x:=.bool false) (y:=.slice p2 n2 n2) hV.b2 (fun e=>hne e.symm))).drew
 have e3:=(cS (x:=.bool false) (y:=.slice p4 n4 n4) (cS (x:=.bool false) (y:=.slice p2 n2 n2) hV.br (show w.heap.size+1+1≠g1 by omega)) (show w.heap.size+1+1≠g2 by omega)).drew
 have r2:=((((hV.r2.set (a:=⟨g1,0,none⟩) (fun h x hx=>(hV.o2 h x hx).1) (.bool false)).set (a:=⟨g1,1,none⟩) (fun h x hx=>(hV.o2 h x hx).1) (.slice p2 n2 n2)).set (a:=⟨g2,0,none⟩) (fun h x hx=>(hV.o2 h x hx).2.1) (.bool false)).set (a:=⟨g2,1,none⟩) (fun h x hx=>(hV.o2 h x hx).2.1) (.slice p4 n4 n4)).drew
 have r4:=((((hR.set (a:=⟨g1,0,none⟩) (fun h x hx=>(ho h x hx).1) (.bool false)).set (a:=⟨g1,1,none⟩) (fun h x hx=>(ho h x hx).1) (.slice p2 n2 n2)).set (a:=⟨g2,0,none⟩) (fun h x hx=>(ho h x hx).2.1) (.bool false)).set (a:=⟨g2,1,none⟩) (fun h x hx=>(ho h x hx).2.1) (.slice p4 n4 n4)).drew
 have hbl:=((((hV.bl.setCell (p:=⟨g1,0,none⟩) (show w.heap.size≤g1 by omega) (.bool false)).setCell (p:=⟨g1,1,none⟩) (show w.heap.size≤g1 by omega) (.slice p2 n2 n2)).setCell (p:=⟨g2,0,none⟩) (show w.heap.size≤g2 by omega) (.bool false)).setCell (p:=⟨g2,1,none⟩) (show w.heap.size≤g2 by omega) (.slice p4 n4 n4)).drew
 generalize ((((W3.setCell ⟨g1,0,none⟩ (.bool false)).setCell ⟨g1,1,none⟩ (.slice p2 n2 n2)).setCell ⟨g2,0,none⟩ (.bool false)).setCell ⟨g2,1,none⟩ (.slice p4 n4 n4)).drew=X at *
 refine⟨⟨e1,e2,e3,r2,r4,hne,l1,l2,hV.o2,ho,hV.k2,by have:=hV.k2;omega,by rw[kj heq];exact hV.g,hbl,hV.v2,hv4⟩,?_⟩
 rw[e2.c1,y5 r4]
theorem DB(V:Nat→Prop)(s t:Bool)(p q:Option Addr)(n m N:Nat)(ds es:List Int)(w:World)(hA:RN w s p n ds)(hB:RN w t q m es)(hn:n≤N)(hm:m≤N)(hN:N≤1000)(hVp:0<n→∀x,p=some x→V x.block)(hVq:0<m→∀x,q=some x→V x.block)(hVn:∀b,w.heap.size≤b→V b):
  Calls Tryz.prog 86 #[.agg #[.bool s,.slice p n n],.agg #[.bool t,.slice q m m]] w (BB V (Int.gcd (vd ds) (vd es)) N w):=by
 have HVV:Hid ((0<n→∀x,p=some x→V x.block)∧(0<m→∀x,q=some x→V x.block)∧(∀b,w.heap.size≤b→V b)):=⟨hVp,hVq,hVn⟩
 clear hVp hVq hVn
 obtain⟨g,hg⟩:∃g,g=Int.gcd (vd ds) (vd es):=⟨_,rfl⟩
 have HG:Hid (g=Int.gcd (vd ds) (vd es)):=hg
 rw[←hg]
 clear hg
 go_enter Tryz.func86,Tryz.ntmps86
 go_upto_region 1 with fail
 have b1:Bx (((w.alloc (.cells #[.bool s,.slice p n n] 43)).alloc (.cells #[.bool t,.slice q m m] 43)).alloc (.cells #[.bool false,.slice none 0 0] 43)) w.heap.size (.bool s) (.slice p n n):=((Bx.new _ _ _ rfl).alloc _).alloc _
 have b2:Bx (((w.alloc (.cells #[.bool s,.slice p n n] 43)).alloc (.cells #[.bool t,.slice q m m] 43)).alloc (.cells #[.bool false,.slice none 0 0] 43)) (w.heap.size+1) (.bool t) (.slice q m m):=(Bx.new _ _ _ (World.size_alloc ..).symm).alloc _
 have b3:Bx (((w.alloc (.cells #[.bool s,.slice p n n] 43)).alloc (.cells #[.bool t,.slice q m m] 43)).alloc (.cells #[.bool false,.slice none 0 0] 43)) (w.heap.size+1+1) (.bool false) (.slice none 0 0):=Bx.new _ _ _ (by rw[World.size_alloc,World.size_alloc])
 have hbw:Below w.heap.size w (((w.alloc (.cells #[.bool s,.slice p n n] 43)).alloc (.cells #[.bool t,.slice q m m] 43)).alloc (.cells #[.bool false,.slice none 0 0] 43)):=af (af (af (Below.refl _ _)))
 generalize (((w.alloc (.cells #[.bool s,.slice p n n] 43)).alloc (.cells #[.bool t,.slice q m m] 43)).alloc (.cells #[.bool false,.slice none 0 0] 43))=wc at *
 have hA1:=hA.below hbw
 have hB1:=hB.below hbw
 have hpl:=hA.lt
 have hql:=hB.lt
 have k0:=b1.c0
 have k1:=b1.c1
 have k2:=b2.c0
 have k3:=b2.c1
 have hgr:w.heap.size+1+1<wc.heap.size:=block_lt_of_cell b3.c0
 have hga:w.heap.size<wc.heap.size:=by omega
 have hgb:w.heap.size+1<wc.heap.size:=by omega
 have HO:Hid ((0<n→∀x,p=some x→x.block<w.heap.size)∧(0<m→∀x,q=some x→x.block<w.heap.size)):=⟨hpl,hql⟩
 clear hpl hql
 go_cut [5,6] (fun xv yv w3=>∃(g1 g2:Nat),xv=.pointer (some ⟨g1,0,none⟩)∧yv=.pointer (some ⟨g2,0,none⟩)∧Gv w w3 g1 g2 p n ds q m es g N V)
 case first=>
  go_region_held3 (fun w'=>w'.cell? ⟨w.heap.size,0,none⟩=some (.bool s)∧w'.cell? ⟨w.heap.size,1,none⟩=some (.slice p n n)∧w'.cell? ⟨w.heap.size+1,0,none⟩=some (.bool t)∧w'.cell? ⟨w.heap.size+1,1,none⟩=some (.slice q m m)) (first|with_reducible exact bB ⟨y0,y1,y2,y3⟩ (af (af (Below.refl _ _)))|with_reducible exact bB ⟨y0,y1,y2,y3⟩ (af (Below.refl _ _))|with_reducible exact⟨y0,y1,y2,y3⟩|with_reducible exact ry (bB ⟨y0,y1,y2,y3⟩ (af (Below.refl _ _))) (by omega) (by omega)|with_reducible exact ry ⟨y0,y1,y2,y3⟩ (by omega) (by omega)|with_reducible exact ry (ry ⟨y0,y1,y2,y3⟩ (by omega) (by omega)) (by omega) (by omega)|with_reducible exact bB ⟨q0,q1,q2,q3⟩ (af (af (Below.refl _ _)))|with_reducible exact bB ⟨q0,q1,q2,q3⟩ (af (Below.refl _ _))|with_reducible exact⟨q0,q1,q2,q3⟩|with_reducible exact bB ⟨k0,k1,k2,k3⟩ (Below.drew (Below.refl _ _))|with_reducible exact bB ⟨k0,k1,k2,k3⟩ (Below.drew (af (Below.refl _ _)))|with_reducible exact bB ⟨k0,k1,k2,k3⟩ (Below.drew (af (af (Below.refl _ _))))|(simp[go_sem, *];done))
   (first
    |(go_at_call_of 120 (Value.agg #[.bool s,.slice p n n]);refine(vo (hA1.below (by first|exact(Below.refl _ _).drew|exact(af (Below.refl _ _)).drew|exact(af (af (Below.refl _ _))).drew))).mono ?_;rintro e x1 ⟨rfl,hR1,hx1⟩;have hB1':=aC hx1;have hW1:=comp (X2:=wc) (w2:=wc) (Below.refl _ _) (by(repeat apply af);exact Below.refl _ _) hB1';obtain⟨hc1,hf1,hz1,-,-⟩:=rN hB1';obtain⟨o1,o2,o3,o4⟩:=bne hB1';have q0:=cell_later hW1 k0;have q1:=cell_later hW1 k1;have q2:=cell_later hW1 k2;have q3:=cell_later hW1 k3;have r1:=Nat.lt_of_lt_of_le hga hW1.size;have r2:=Nat.lt_of_lt_of_le hgb hW1.size;have t1:=hW1.size;have t1b:=hB1'.size)
    |(go_at_call_of 120 (Value.agg #[.bool t,.slice q m m]);refine(vo (hB1.below (by(repeat apply af);exact hW1))).mono ?_;rintro e x2 ⟨rfl,hR2,hx2⟩;have hb12:=comp hB1' (by(repeat apply af);exact Below.refl _ _) hx2;have hW2:=comp hW1 (by(repeat apply af);exact Below.refl _ _) hx2;have hR12:=hR1.below (comp (X2:=x1) (w2:=x1) (Below.refl _ _) (by(repeat apply af);exact Below.refl _ _) hx2);obtain⟨hc3,hf3,hz3,-,-⟩:=rN hx2;obtain⟨hc4,hf4,hz4,-,-⟩:=rN hb12;obtain⟨m1,m2,m3,m4⟩:=bne hx2;obtain⟨m5,m6,m7,m8⟩:=bne hb12;have y0:=cell_later hW2 k0;have y1:=cell_later hW2 k1;have y2:=cell_later hW2 k2;have y3:=cell_later hW2 k3;have r3:=Nat.lt_of_lt_of_le hga hW2.size;have r4:=Nat.lt_of_lt_of_le hgb hW2.size;have b32:=b3.later hW2;have t2:=hW2.size;have t2b:=hx2.size))
  all_goals (go_wp2_with fail;go_meet)
  all_goals
   refine⟨_,_,rfl,rfl,?_,?_,?_,?_,?_,?_,?_,?_,fun h0 x hx=>?_,fun h0 x hx=>?_,hn,hm,HG.out.symm,?_,HVV.out.1,HVV.out.2.1⟩
   ·(repeat (first|exact xD (by simp;done)|refine dI (u:=.bool false) (v:=.slice none 0 0) ?_|refine cS ?_ (by have h1:=t1b;have h2:=t2b;have h3:=t1;have h4:=t2;(try simp only[World.size_alloc] at h1 h2);(try simp only[World.size_alloc]);(try dsimp only);omega)|apply vR));all_goals exact⟨by simp[go_sem, *],by simp[go_sem, *],by simp[go_sem, *],by simp[go_sem, *]⟩
   ·(repeat (first|exact xD (by simp;done)|refine dI (u:=.bool false) (v:=.slice none 0 0) ?_|refine cS ?_ (by have h1:=t1b;have h2:=t2b;have h3:=t1;have h4:=t2;(try simp only[World.size_alloc] at h1 h2);(try simp only[World.size_alloc]);(try dsimp only);omega)|apply vR));all_goals exact⟨by simp[go_sem, *],by simp[go_sem, *],by simp[go_sem, *],by simp[go_sem, *]⟩
   ·(repeat (first|exact b32|apply vR|refine cS ?_ (by have h1:=t1b;have h2:=t2b;have h3:=t1;have h4:=t2;(try simp only[World.size_alloc] at h1 h2);(try simp only[World.size_alloc]);(try dsimp only);omega)))
   ·(repeat (first|exact hR12|apply j9|refine nQ HO.out.1 (by have h1:=t1b;have h2:=t2b;have h3:=t1;have h4:=t2;(try simp only[World.size_alloc] at h1 h2);(try simp only[World.size_alloc]);(try dsimp only);omega) ?_))
   ·(repeat (first|exact hR2|apply j9|refine nQ HO.out.2 (by have h1:=t1b;have h2:=t2b;have h3:=t1;have h4:=t2;(try simp only[World.size_alloc] at h1 h2);(try simp only[World.size_alloc]);(try dsimp only);omega) ?_))
   ·(have h1:=t1b;have h2:=t2b;have h3:=t1;have h4:=t2;(try simp only[World.size_alloc] at h1 h2);(try simp only[World.size_alloc]);(try dsimp only);omega)
   ·(have h1:=t1b;have h2:=t2b;have h3:=t1;have h4:=t2;(try simp only[World.size_alloc] at h1 h2);(try simp only[World.size_alloc]);(try dsimp only);omega)
   ·(have h1:=t1b;have h2:=t2b;have h3:=t1;have h4:=t2;(try simp only[World.size_alloc] at h1 h2);(try simp only[World.size_alloc]);(try dsimp only);omega)
   ·(have hh:=HO.out.1 h0 x hx;have h1:=t1b;have h2:=t2b;have h3:=t1;have h4:=t2;(try simp only[World.size_alloc] at h1 h2);(try simp only[World.size_alloc]);(try dsimp only);omega)
   ·(have hh:=HO.out.2 h0 x hx;have h1:=t1b;have h2:=t2b;have h3:=t1;have h4:=t2;(try simp only[World.size_alloc] at h1 h2);(try simp only[World.size_alloc]);(try dsimp only);omega)
   ·refine hbw.trans (Below.mono (B:=wc.heap.size) ?_ (by omega));(repeat (first|exact hW2|refine rC ?_ (Nat.le_refl _)|refine CE ?_ (by have h1:=t1b;have h2:=t2b;have h3:=t1;have h4:=t2;(try simp only[World.size_alloc] at h1 h2);(try simp only[World.size_alloc]);(try dsimp only);omega)))
 case rest=>
  obtain⟨g1,g2,rfl,rfl,hG⟩:=hcut
  clear k0 k1 k2 k3 b1 b2 b3 hA1 hB1 hga hgb hgr
  have HGV:Hid (Gv w wc g1 g2 p n ds q m es g N V):=hG
  clear hG
  go_wp2
  go_loopw [] (fun wr=>∃(p1:Option Addr) (n1:Nat) (d1:List Int) (p2:Option Addr) (n2:Nat) (d2:List Int),Hid (Gv w wr g1 g2 p1 n1 d1 p2 n2 d2 g N V)) (fun wr=>rdd wr (wr.cell? ⟨g2,1,none⟩))
  case atStart=>exact⟨p,n,ds,q,m,es,HGV.out⟩
  case round=>
   obtain⟨p1,n1,d1,p2,n2,d2,H⟩:=hrel
   have hV:=H.out
   have k2:=hV.b2.c0
   have k3:=hV.b2.c1
   have hsg:=c_ false p2 n2 n2 d2 wr hV.r2.u hV.r2.nrm
   by_cases h0:n2=0
   ·subst h0
    have hz:vd d2=0:=(bg hV.r2.u).1 hV.r2.nrm
    rw[ag,if_neg (by decide),hz,show aG 0=0 from rfl] at hsg
    clear hV hz
    go_wp2_with fail
    refine hsg.mono ?_
    clear hsg
    rintro e w1 ⟨rfl,hb1⟩
    have hV1:=H.out.later hb1
    have j0:=hV1.b1.c0
    have j1:=hV1.b1.c1
    have z0:=hV1.br.c0
    have z1:=hV1.br.c1
    have f0:=hV1.br.f0
    have f1:=hV1.br.f1
    have HV1:Hid (Gv w w1 g1 g2 p1 n1 d1 p2 0 d2 g N V):=hV1
    clear k2 k3 hV1
    go_wp2
    have hV:=HV1.out
    refine bodyPost_ret (v:=.agg #[.bool false,.slice p1 n1 n1]) (by simp[results,Tryz.results86,go_sem,z0,z1]) rfl ⟨p1,n1,d1,rfl,?_,?_,hV.k1,?_,hV.v1⟩
    ·exact(hV.r1.set (a:=⟨w.heap.size+1+1,0,none⟩) (fun h x hx=>(hV.o1 h x hx).2.2) _).set (a:=⟨w.heap.size+1+1,1,none⟩) (fun h x hx=>(hV.o1 h x hx).2.2) _
    ·have h1:=hV.g
     rw[(bg hV.r2.u).1 hV.r2.nrm,Int.gcd_zero_right] at h1
     have:=ay hV.r1.u
     rw[ag,if_neg (by decide)]
     omega
    ·exact(hV.bl.setCell (p:=⟨w.heap.size+1+1,0,none⟩) (by simp;omega) _).setCell (p:=⟨w.heap.size+1+1,1,none⟩) (by simp;omega) _
   ·have hz:vd d2≠0:=fun e=>h0 (by rw[←hV.r2.nrm];exact(bg hV.r2.u).2 e)
    have hs1:aG (ag false d2)=1:=by
     have:=ay hV.r2.u
     rw[ag,if_neg (by decide),aG,if_neg hz,if_neg (by omega)]
    rw[hs1] at hsg
    have HM:Hid (rdd wr (wr.cell? ⟨g2,1,none⟩)=(vd d2).toNat):=by
     show _=_
     rw[hV.b2.c1];exact y5 hV.r2
    clear hV hz hs1
    go_wp2_with fail
    refine hsg.mono ?_
    clear hsg
    rintro e w1 ⟨rfl,hb1⟩
    have hV1:=H.out.later hb1
    have i0:=hV1.b1.c0
    have i1:=hV1.b1.c1
    have i2:=hV1.b2.c0
    have i3:=hV1.b2.c1
    have hqq:=td p1 p2 n1 n2 d1 d2 w1 hV1.r1 hV1.r2 (by have:=hV1.k1;omega) (by have:=hV1.k2;omega) (by omega)
    have HV1:Hid (Gv w w1 g1 g2 p1 n1 d1 p2 n2 d2 g N V):=hV1
    clear k2 k3 hV1 hb1 H
    go_wp2_with fail
    refine hqq.mono ?_
    clear hqq
    rintro e w2 ⟨p3,n3,d3,p4,n4,d4,rfl,hR3,hR4,heq,hlt,hn4,hb2,hloc⟩
    have hal:Below w2.heap.size w2 ((w2.alloc (.cells #[.bool false,.slice p3 n3 n3] 43)).alloc (.cells #[.bool false,.slice p4 n4 n4] 43)):=af (af (Below.refl _ _))
    have br:Bx ((w2.alloc (.cells #[.bool false,.slice p3 n3 n3] 43)).alloc (.cells #[.bool false,.slice p4 n4 n4] 43)) (w2.heap.size+1) (.bool false) (.slice p4 n4 n4):=Bx.new _ _ _ (World.size_alloc ..).symm
    have hV3:=(HV1.out.later hb2).later hal
    have hR4':=hR4.below hal
    have hg1:g1<w1.heap.size:=block_lt_of_cell i0
    have hg2:g2<w1.heap.size:=block_lt_of_cell i2
    have hs2:=hb2.size
    have HQ:Hid (vd d3*vd d2+vd d4=vd d1∧vd d4<vd d2∧(0<n4→(p4=p1∧0<n1)∨az w1.heap.size p4)∧g1<w1.heap.size∧g2<w1.heap.size∧w.heap.size+1+1<w1.heap.size):=⟨heq,hlt,hloc,hg1,hg2,by have:=HV1.out.l1;omega⟩
    have HV3:Hid (Gv w ((w2.alloc (.cells #[.bool false,.slice p3 n3 n3] 43)).alloc (.cells #[.bool false,.slice p4 n4 n4] 43)) g1 g2 p1 n1 d1 p2 n2 d2 g N V∧RN ((w2.alloc (.cells #[.bool false,.slice p3 n3 n3] 43)).alloc (.cells #[.bool false,.slice p4 n4 n4] 43)) false p4 n4 d4):=⟨hV3,hR4'⟩
    have j0:=hV3.b1.c0
    have j1:=hV3.b1.c1
    have j2:=hV3.b2.c0
    have j3:=hV3.b2.c1
    have f0:=hV3.b1.f0
    have f1:=hV3.b1.f1
    have f2:=hV3.b2.f0
    have f3:=hV3.b2.f1
    have j4:=br.c0
    have j5:=br.c1
    have hne:=hV3.ne
    have hne1:w2.heap.size+1≠g1:=by omega
    have hne2:w2.heap.size+1≠g2:=by omega
    clear i0 i1 i2 i3 HV1 heq hlt hloc hal hV3 hR3 hR4 hR4' hb2 hs2 hg1 hg2
    go_wp2_with fail
    generalize ((w2.alloc (.cells #[.bool false,.slice p3 n3 n3] 43)).alloc (.cells #[.bool false,.slice p4 n4 n4] 43))=W3 at *
    generalize w2.heap.size+1=gr at *
    go_region
    all_goals go_wp2
    obtain⟨hV,hR⟩:=HV3.out
    obtain⟨heq,hlt,hloc,hg1,hg2,hgr⟩:=HQ.out
    have ho:0<n4→∀x,p4=some x→x.block≠g1∧x.block≠g2∧x.block≠w.heap.size+1+1:=fun h x hx=>by
     rcases hloc h with ⟨h1,h2⟩|h1
     ·rw[h1] at hx;exact hV.o1 h2 x hx
     ·have:=h1 x hx;exact⟨by omega,by omega,by omega⟩
    have hv4:0<n4→∀x,p4=some x→V x.block:=fun h x hx=>by
     rcases hloc h with ⟨h1,h2⟩|h1
     ·rw[h1] at hx;exact hV.v1 h2 x hx
     ·have:=h1 x hx;exact HVV.out.2.2 _ (by omega)
    obtain⟨e1,e2⟩:=hV.step hR ho hn4 heq hv4
    have hd:=ay hR.u
    refine⟨⟨p2,n2,d2,p4,n4,d4,e1⟩,?_⟩
    rw[e2,HM.out]
    omega
theorem AM(s t:Bool)(p q:Option Addr)(n m N:Nat)(ds es:List Int)(w:World)(hA:RN w s p n ds)(hB:RN w t q m es)(hn:n≤N)(hm:m≤N)(hN:N≤1000):
  Calls Tryz.prog 86 #[.agg #[.bool s,.slice p n n],.agg #[.bool t,.slice q m m]] w (CL (Int.gcd (vd ds) (vd es)) N w):=by
 refine(DB (fun _=>True) s t p q n m N ds es w hA hB hn hm hN (fun _ _ _=>trivial) (fun _ _ _=>trivial) (fun _ _=>trivial)).mono ?_
 rintro e w' ⟨p',n',ds',h1,h2,h3,h4,h5,-⟩
 exact⟨p',n',ds',h1,h2,h3,h4,h5⟩
end Go.Proofs.YtfnkomoickanfaaGreatDoor
