/- Own. -/
import Derived.Test.YtfnkomoickanfaaGreatDoorRo
set_option linter.unusedVariables false
set_option linter.unusedSimpArgs false
set_option maxHeartbeats 8000000
set_option maxRecDepth 100000
namespace Go.Proofs.YtfnkomoickanfaaGreatDoor
open Go.RowKit
theorem pW(s:Bool)(p:Option Addr)(n nc:Nat)(xs:List Int)(w:World)(hA:AI w p n nc xs):
  Calls Tryz.prog 50 #[.agg #[.bool s,.slice p n nc]] w fun e w'=>∃s' p' n' ds',e=.returned (.agg #[.bool s',.slice p' n' n'])∧RN w' s' p' n' ds'∧ag s' ds'=ak s xs∧n'≤2*n∧az w.heap.size p'∧Below w.heap.size w w':=by
 refine(zA s p n nc xs w hA).mono ?_
 rintro e w' ⟨s',q,nq,rfl,hR,rfl,hF,hb⟩
 refine⟨_,q,nq,_,rfl,hR,by rw[iK s (vN hA.u),AZ],?_,hF,hb⟩
 have h1:=hR.nrm
 rw[aZ] at h1
 have h2:=ao (spl xs)
 rw[gW] at h2
 have:=hA.len
 omega
theorem fP(N:Nat):l5 (fun w z e=>RE w N z e):=⟨fun h hg hne=>h.grown hg hne,fun h=>h.lt⟩
theorem LG.pr{base:Nat}{w:World}{N:Nat}{v:Value}{es:List Ent}{zs:List Int}(h:LG base 43 (fun w z e=>RE w N z e) w v es zs):∃q cap,v=.slice q es.length cap∧PR w N q es.length cap es zs∧az base q:=by
 obtain⟨q,cap,h1,h2,h3,h4,h5,-⟩:=h.pl
 exact⟨q,cap,h1,⟨rfl,h.zl,h2,h3,h4,h.ev⟩,h5⟩
theorem xm{w:World}{K:Nat}{p:Option Addr}{n nc:Nat}{es0:List Ent}{zs:List Int}(h:PA w K p n nc es0 zs)(hn:n≤100000)(hK:K≤400):
  Calls Tryz.prog 17 #[.slice p n nc] w (PrF (tr zs) (2*K) w):=by
 obtain⟨i0,hi,hzz⟩:=Option.map_eq_some_iff.1 fN
 simp only[Prod.mk.injEq] at hzz
 obtain⟨hz0,hz1,hz2⟩:=hzz
 have HI:Hid (Tryz.prog.info? 43=some i0∧i0.zero=some (.agg #[.bool false,.slice none 0 0])∧i0.size=2∧i0.bytes=32):=⟨hi,hz0,hz1,hz2⟩
 have HX:Hid (PA w K p n nc es0 zs):=h
 clear h hi hz0 hz1 hz2
 go_enter Tryz.func17,Tryz.ntmps17
 go_wp2_with fail
 go_loopw [3,4] (fun qv iv wr=>∃(k:Nat) (es:List Ent),k≤n∧iv=.int .i64 k∧Hid (es.length=k∧LG w.heap.size 43 (fun w z e=>RE w (2*K) z e) wr qv es (zs.take k)∧Below w.heap.size w wr∧∀j,j<k→0<(ge es j).n→az w.heap.size (ge es j).p)) (fun _ iv _=>n-(intOf iv).toNat)
 case atStart=>exact⟨0,[],Nat.zero_le _,by go_num,rfl,by rw[List.take_zero];exact LG.nil _ _ _ _,Below.refl _ _,fun j hj=>absurd hj (by omega)⟩
 case round=>
  obtain⟨k,es,hk,rfl,H⟩:=hrel
  rcases Nat.lt_or_ge k n with hlt|hge
  ·obtain⟨hel,hLR,hB,hfr⟩:=H.out
   have hPA:=HX.out.below hB
   obtain⟨b,o,hp,hc⟩:=hPA.pl (by rw[hPA.el];omega)
   subst hp
   obtain⟨c0,c1⟩:=hc k (by rw[hPA.el];omega)
   obtain⟨xs,hA,hv,hle⟩:=hPA.ev k hlt
   have hzl:=hPA.zl
   clear hel hLR hB hc hPA hfr
   go_wp2_with fail
   refine(pW (ge es0 k).s (ge es0 k).p (ge es0 k).n (ge es0 k).c xs _ hA).mono ?_
   rintro e w1 ⟨s1,p1,n1,d1,rfl,hR1,hv1,hn1,hF1,hb1⟩
   have HE:Hid (RE w1 (2*K) (gx zs k) ⟨s1,p1,n1,n1⟩):=⟨⟨d1,hR1,by rw[hv1,hv],by show n1≤_;omega⟩,rfl⟩
   clear c0 c1 hR1 hv1 hA hv
   obtain⟨hi,hz0,hz1,hz2⟩:=HI.out
   have hown0:=bW H.out.2.1.own hb1
   rw[H.out.1] at hown0
   have HO:Hid (w1.ownsRow w.heap.size 43 2 u3 k (fl es)):=hown0
   have hsz:w.heap.size≤w1.heap.size:=Nat.le_trans H.out.2.2.1.size hb1.size
   clear hown0
   go_wp2_with (refine wpList_append_lies _ rfl _ _ 54 rfl w.heap.size 43 i0 (.agg #[.bool false,.slice none 0 0]) 2 32 Tryz.underlying54 hi hz0 hz1 hz2 rfl (by decide) u3 k (fl es) rfl (HO.out.alloc _) ⟨w1.heap.size,0,none⟩ 1 1 [.bool s1,.slice p1 n1 n1] rfl rfl ?_ (fun x hx=>by simp at hx;rcases hx with rfl|rfl<;>rfl) (by decide) (by unfold maxLen;omega) (by omega) (by simp;omega) _ rfl ?_;exact World.news_of_block (heap_alloc_new w1 _);intro g cap w3 hown3 hgrow3 hat3 hlt3;have hB3:Below w.heap.size w w3:=((ae H.out.2.2.1 hb1).alloc hsz _).grown hgrow3 (by simp;omega) (fun q hq=>(HO.out.lt q hq).1);have HA:Hid (LG w.heap.size 43 (fun w z e=>RE w (2*K) z e) w3 (.slice (some ⟨g,0,none⟩) (k+1) cap) (es++[⟨s1,p1,n1,n1⟩]) (zs.take k++[gx zs k])):=C_ (fP _) H.out.1 H.out.2.1 hb1 HE.out hF1 hown3 hgrow3 hat3;clear hown3 hgrow3 hat3)
   refine⟨⟨k+1,es++[⟨s1,p1,n1,n1⟩],by omega,by go_num,by have:=H.out.1;simp;omega,by rw[fA zs k (by omega)];exact HA.out,hB3,fun j hj h0=>?_⟩,by simp[intOf];omega⟩
   have hel:=H.out.1
   rcases Nat.lt_or_ge j k with h|h
   ·rw[bP _ _ _ (by omega)] at h0 ⊢
    exact H.out.2.2.2 j h h0
   ·obtain rfl:j=es.length:=by omega
    rw[ib]
    exact fun a ha=>Nat.le_trans H.out.2.2.1.size (hF1 a ha)
  ·obtain rfl:k=n:=by omega
   obtain⟨hel,hLR,hB,hfr⟩:=H.out
   have hzl:=HX.out.zl
   rw[List.take_of_length_le (by omega)] at hLR
   obtain⟨q,cap,hv,hPR,hF⟩:=hLR.pr
   subst hv
   rw[hel] at hPR ⊢
   have HB:Hid (Below w.heap.size w wr):=hB
   have HF:Hid (∀j,j<k→0<(ge es j).n→az w.heap.size (ge es j).p):=hfr
   clear H hLR hB hge hk hfr
   go_wp2_with fail
   refine(eU (2*K) q k cap es zs _ hPR (by omega)).mono ?_
   rintro e w1 ⟨rfl,hb1⟩
   have HP:Hid (PR wr (2*K) q k cap es zs):=hPR
   clear hPR
   go_wp2
   go_ret
   have htl:=ao zs
   have hcap:=HP.out.cap
   have hT:=(HP.out.below hb1).take (ad zs) (ad zs) (by omega) (Nat.le_refl _) (by omega)
   refine⟨q,ad zs,es.take (ad zs),rfl,hT,hF,aZ zs,fun j hj h0=>?_,ae HB.out hb1⟩
   rw[ic _ _ _ hj] at h0 ⊢
   exact HF.out j (by omega) h0
theorem RE.eL{w:World}{N:Nat}{z:Int}{e:Ent}{g o:Nat}{u v:Value}(h:RE w N z e)(ho:0<e.n→Off g e.p):RE ((w.setCell ⟨g,o,none⟩ u).setCell ⟨g,o+1,none⟩ v) N z e:=by
 obtain⟨⟨ds,h1,h2⟩,h4⟩:=h
 refine⟨⟨ds,⟨h1.len,fun hx=>?_,h1.u,h1.nrm,h1.sg,h1.sml⟩,h2⟩,h4⟩
 have:=ho (by rw[h1.len] at hx;exact hx)
 exact((h1.rd.ah ⟨g,o,none⟩ u this).ah ⟨g,o+1,none⟩ v this) hx
theorem RN.fit{w:World}{s:Bool}{p:Option Addr}{n N:Nat}{ds:List Int}(h:RN w s p n ds)(hz:((ag s ds).natAbs:Int)<pd N):n≤N:=by
 have a:=ay h.u
 have e:((ag s ds).natAbs:Int)=vd ds:=by unfold ag;split<;>omega
 rw[e] at hz
 rcases Nat.lt_or_ge N n with hk|hk
 ·have b:=cn h.u (by rw[h.nrm];omega)
  rw[h.nrm] at b
  have c:=ct (show N≤n-1 by omega)
  omega
 ·exact hk
theorem unFr{w:World}{p:Option Addr}(h:az w.drew.heap.size p):az w.heap.size p:=h
theorem C8{w w':World}{a c i j k l:Nat}{u v x y:Value}(h:w.cell? ⟨a,i,none⟩=some u∧w.cell? ⟨a,j,none⟩=some v∧w.cell? ⟨c,k,none⟩=some x∧w.cell? ⟨c,l,none⟩=some y)(hb:Below w.heap.size w w'):w'.cell? ⟨a,i,none⟩=some u∧w'.cell? ⟨a,j,none⟩=some v∧w'.cell? ⟨c,k,none⟩=some x∧w'.cell? ⟨c,l,none⟩=some y:=
 ⟨cell_later hb h.1,cell_later hb h.2.1,cell_later hb h.2.2.1,cell_later hb h.2.2.2⟩
theorem Bx.kept{w w':World}{r:Nat}{a b:Value}{row:Option Nat}(h:Bx w r a b)(hg:w.grownBy w' row)(hne:some r≠row):Bx w' r a b:=by
 have e:w'.heap[r]?=w.heap[r]?:=hg.block r (block_lt_of_cell h.c0) hne
 exact⟨(World.cell?_of_block (a:=⟨r,0,none⟩) e).trans h.c0,(World.cell?_of_block (a:=⟨r,1,none⟩) e).trans h.c1,(World.frozen?_of_block (a:=⟨r,0,none⟩) e).trans h.f0,(World.frozen?_of_block (a:=⟨r,1,none⟩) e).trans h.f1⟩
theorem xt{zs:List Int}(h:ad zs=zs.length):tr zs=zs:=by rw[tr,h,List.take_length]
theorem BR(f:Int→Int)(h0:f 0=0)(xs:List Int)(j:Nat):gx (xs.map f) j=f (gx xs j):=by
 unfold gx
 rw[List.getD_eq_getElem?_getD,List.getD_eq_getElem?_getD,List.getElem?_map]
 cases h:xs[j]? with
 |none=>simp[h0]
 |some v=>simp
def part(xs:List Int)(n k:Nat):List Int:=xs.take k++aw (n-k)
theorem At{v x:Int}(h1:0≤v∧v<65536)(h2:0≤x∧x<65536):0≤v*x∧v*x≤4294836225:=by
 refine⟨Int.mul_nonneg h1.1 h2.1,?_⟩
 have a1:v*x≤v*65535:=Int.mul_le_mul_of_nonneg_left (by omega) h1.1
 omega
theorem yD{a b:List Int}{i j:Nat}(ha:U16 a)(hb:U16 b)(hi:a.length≤i)(hj:b.length≤j):vd a*vd b<pd (i+j):=by
 have a1:=eo ha
 have b1:=eo hb
 have a0:=ay ha
 have b0:=ay hb
 have a2:=ct hi
 have b2:=ct hj
 rw[oA]
 have c1:vd a*vd b≤vd a*pd j:=Int.mul_le_mul_of_nonneg_left (by omega) a0
 have c2:vd a*pd j<pd i*pd j:=Int.mul_lt_mul_of_pos_right (by omega) (cB j)
 omega
theorem AN(s t:Bool)(p q:Option Addr)(n nc m mc:Nat)(xs ys:List Int)(w:World)(hn:xs.length=n)(hm:ys.length=m)(hnb:n≤1000000)(hmb:m≤1000000)(hX:Rd w p .i64 xs)(hXu:U16 xs)(hY:Rd w q .i64 ys)(hYu:U16 ys):
  Calls Tryz.prog 43 #[.agg #[.bool s,.slice p n nc],.agg #[.bool t,.slice q m mc]] w (fc (n+m+1) (ag s xs*ag t ys) w):=by
 have hmk:=jO (n+m+1) (by omega)
 have ec:((n+m+1:Nat):Int)=(n:Int)+(m:Int)+1:=by omega
 rw[ec] at hmk
 clear ec
 have HN:Hid (xs.length=n∧ys.length=m):=⟨hn,hm⟩
 clear hn hm
 go_enter Tryz.func43,Tryz.ntmps43
 go_wp2
 have hrow:=Row.new3 w (Obj.cells #[Value.bool s,Value.slice p n nc] 43) (Obj.cells #[Value.bool t,Value.slice q m mc] 43) (Obj.cells #[Value.bool false,Value.slice none 0 0] 43) 3 .i64 (aw (n+m+1))
 have hWs:(((w.alloc (Obj.cells #[Value.bool s,Value.slice p n nc] 43)).alloc (Obj.cells #[Value.bool t,Value.slice q m mc] 43)).alloc (Obj.cells #[Value.bool false,Value.slice none 0 0] 43)).heap.size=w.heap.size+1+1+1:=by simp
 have hX3:=fD w (.bool s) (.slice p n nc) (.bool t) (.slice q m mc) (.bool false) (.slice none 0 0) 43 43 43
 generalize ((w.alloc (Obj.cells #[Value.bool s,Value.slice p n nc] 43)).alloc (Obj.cells #[Value.bool t,Value.slice q m mc] 43)).alloc (Obj.cells #[Value.bool false,Value.slice none 0 0] 43)=W at *
 have hXW:=hX.below hX3.below
 have hYW:=hY.below hX3.below
 have HWs:Hid (W.heap.size=w.heap.size+1+1+1):=hWs
 clear hWs
 have hbel:Below W.heap.size W (W.alloc (.cells (ca .i64 (aw (n+m+1))) 3)):=(Below.refl _ _).alloc (Nat.le_refl _) _
 generalize W.alloc (.cells (ca .i64 (aw (n+m+1))) 3)=W1 at *
 have HST:Hid (Row W1 (w.heap.size+1+1+1) 3 .i64 (aw (n+m+1))∧Below W.heap.size W W1):=⟨hrow,hbel⟩
 clear hrow hbel hmk
 go_loopw [6] (fun iv wr=>∃(i:Nat) (D:List Int),i≤n∧iv=.int .i64 i∧Hid (D.length=n+m+1∧U16 D∧vd D=vd (xs.take i)*vd ys∧Row wr (w.heap.size+1+1+1) 3 .i64 D∧Below W.heap.size W wr)) (fun iv _=>n-(intOf iv).toNat)
 case atStart=>exact⟨0,aw (n+m+1),Nat.zero_le _,rfl,aR _,eY _,by simp[Cz,vd],HST.out.1,HST.out.2⟩
 case round=>
  obtain⟨i,D,hi,rfl,H⟩:=hrel
  have hXr:=hX3.later H.out.2.2.2.2
  have k1:=hXr.ca1
  have k3:=hXr.cb1
  by_cases hlt:i<n
  ·have hltI:(i:Int)<(n:Int):=by omega
   clear hXr
   go_wp2
   go_loopw [7,8] (fun cv jv wr'=>∃(j:Nat) (c:Int) (T:List Int),j≤m∧jv=.int .i64 j∧cv=.int .i64 c∧0≤c∧c<65536∧Hid (T.length=n+m+1∧U16 T∧vd T+pd (i+j)*c=vd D+pd i*(gx xs i*vd (ys.take j))∧Row wr' (w.heap.size+1+1+1) 3 .i64 T∧Below W.heap.size W wr')) (fun _ jv _=>m-(intOf jv).toNat)
   case atStart=>
    obtain⟨hl,hu,hv,hr,hg⟩:=H.out
    exact⟨0,0,D,Nat.zero_le _,rfl,rfl,by decide,by decide,hl,hu,by simp[vd],hr,hg⟩
   case round=>
    obtain⟨j,c,T,hj,rfl,rfl,hc0,hc1,HT⟩:=hrel
    clear k1 k3
    have hXr:=hX3.later HT.out.2.2.2.2
    have k1:=hXr.ca1
    have k3:=hXr.cb1
    clear hXr
    by_cases hjm:j<m
    ·have hjI:(j:Int)<(m:Int):=by omega
     have hijI:(i:Int)+(j:Int)<(n:Int)+(m:Int)+1:=by omega
     obtain⟨b1,o1,rfl,hc1'⟩:=(hXW.below HT.out.2.2.2.2) (by have:=HN.out;omega)
     obtain⟨b2,o2,rfl,hc2'⟩:=(hYW.below HT.out.2.2.2.2) (by have:=HN.out;omega)
     have g1:=hc1' i (by have:=HN.out;omega)
     have g2:=hc2' j (by have:=HN.out;omega)
     have g3:=HT.out.2.2.2.1.cell (i+j) (by have:=HT.out.1;omega)
     have g4:=HT.out.2.2.2.1.frozen (i+j)
     obtain⟨bt0,bt1⟩:=HT.out.2.1 (i+j)
     obtain⟨bm0,bm1⟩:=At (hXu i) (hYu j)
     obtain⟨bx0,bx1⟩:=hXu i
     obtain⟨by0,by1⟩:=hYu j
     have q1:(c+(gx T (i+j)+gx xs i*gx ys j)).tmod 65536=(c+(gx T (i+j)+gx xs i*gx ys j))%65536:=Int.tmod_eq_emod_of_nonneg (by omega)
     have q2:(c+(gx T (i+j)+gx xs i*gx ys j)).tdiv 65536=(c+(gx T (i+j)+gx xs i*gx ys j))/65536:=Int.tdiv_eq_ediv_of_nonneg (by omega)
     have v0:IntKind.i64.wrap ((i:Int)+(j:Int))=(i:Int)+(j:Int):=by rw[IntKind.wrap_i64];omega
     have v1:IntKind.i64.wrap (gx xs i*gx ys j)=gx xs i*gx ys j:=by rw[IntKind.wrap_i64];omega
     have v2:IntKind.i64.wrap (gx T (i+j)+gx xs i*gx ys j)=gx T (i+j)+gx xs i*gx ys j:=by rw[IntKind.wrap_i64];omega
     have v3:IntKind.i64.wrap (c+(gx T (i+j)+gx xs i*gx ys j))=c+(gx T (i+j)+gx xs i*gx ys j):=by rw[IntKind.wrap_i64];omega
     have v4:((i:Int)+(j:Int)).toNat=i+j:=by omega
     have v5:0≤(i:Int)+(j:Int):=by omega
     clear hc1' hc2'
     go_wp2_with fail
     go_quiet (fail)
     go_wp2_with fail
     have hsW:=HWs.out
     obtain⟨hl,hu,hv,hr,hg⟩:=HT.out
     have hr':Row (wr.drewN nq) (w.heap.size+1+1+1) 3 .i64 T:=hr
     refine⟨⟨j+1,_,T.set (i+j) ((c+(gx T (i+j)+gx xs i*gx ys j))%65536),by omega,by go_num,rfl,by omega,by omega,by rw[List.length_set];exact hl,ck hu _ (by omega),?_,hr'.set (i+j) _,(below_drewN hg nq).setCell (by simp only;omega) _⟩,by simp[intOf];omega⟩
     rw[zt T _ _ (by omega),aB ys j,←Nat.add_assoc,bu]
     have e:=gP (pd (i+j)) (c+(gx T (i+j)+gx xs i*gx ys j))
     have e2:pd i*(gx xs i*(vd (List.take j ys)+pd j*gx ys j))=pd i*(gx xs i*vd (List.take j ys))+pd (i+j)*(gx xs i*gx ys j):=by
      rw[oA,Int.mul_add,Int.mul_add]
      congr 1
      simp only[Int.mul_assoc,Int.mul_left_comm]
     rw[e2]
     simp only[Int.mul_add,Int.mul_sub] at e ⊢
     omega
    ·obtain rfl:j=m:=by omega
     have hjI:¬(j:Int)<(j:Int):=by omega
     have v0:IntKind.i64.wrap ((i:Int)+(j:Int))=(i:Int)+(j:Int):=by rw[IntKind.wrap_i64];omega
     go_wp2
     go_loopw [7,9] (fun cv kv wr'=>∃(k:Nat) (c:Int) (T:List Int),i+j≤k∧k≤n+j+1∧kv=.int .i64 k∧cv=.int .i64 c∧0≤c∧c<65536∧Hid (T.length=n+j+1∧U16 T∧vd T+pd k*c=vd (xs.take (i+1))*vd ys∧Row wr' (w.heap.size+1+1+1) 3 .i64 T∧Below W.heap.size W wr')) (fun _ kv _=>n+j+1-(intOf kv).toNat)
     case atStart=>
      obtain⟨hl,hu,hv,hr,hg⟩:=HT.out
      refine⟨i+j,c,T,Nat.le_refl _,by omega,by go_num,rfl,hc0,hc1,hl,hu,?_,hr,hg⟩
      rw[hv,H.out.2.2.1,List.take_of_length_le (l:=ys) (by have:=HN.out;omega),aB,Int.add_mul,Int.mul_assoc]
     case round=>
      obtain⟨k,c2,T2,hk1,hk2,rfl,rfl,hd0,hd1,HT2⟩:=hrel
      by_cases hc:0<c2
      ·have hkL:k<n+j+1:=by
        rcases Nat.lt_or_ge k (n+j+1) with h|h
        ·exact h
        ·exfalso
         obtain⟨hl,hu,hv,hr,hg⟩:=HT2.out
         have e1:=yD (i:=n) (j:=j) (cI hXu (i+1)) hYu (by have:=HN.out;simp;omega) (by have:=HN.out;omega)
         have e2:pd (n+j)≤pd k:=ct (by omega)
         have e3:=ay hu
         have e4:pd k*1≤pd k*c2:=Int.mul_le_mul_of_nonneg_left (by omega) (Int.le_of_lt (cB k))
         omega
       have hkI:(k:Int)<(n:Int)+(j:Int)+1:=by omega
       have g3:=HT2.out.2.2.2.1.cell k (by have:=HT2.out.1;omega)
       have g4:=HT2.out.2.2.2.1.frozen k
       obtain⟨bt0,bt1⟩:=HT2.out.2.1 k
       have q1:(c2+gx T2 k).tmod 65536=(c2+gx T2 k)%65536:=Int.tmod_eq_emod_of_nonneg (by omega)
       have q2:(c2+gx T2 k).tdiv 65536=(c2+gx T2 k)/65536:=Int.tdiv_eq_ediv_of_nonneg (by omega)
       go_wp2
       have hsW:=HWs.out
       obtain⟨hl,hu,hv,hr,hg⟩:=HT2.out
       refine⟨⟨k+1,_,T2.set k ((c2+gx T2 k)%65536),by omega,by omega,by go_num,rfl,by omega,by omega,by rw[List.length_set];exact hl,ck hu _ (by omega),?_,hr.set k _,hg.setCell (by simp only;omega) _⟩,by simp[intOf];omega⟩
       rw[zt T2 _ _ (by omega),bu,←hv]
       have e:=gP (pd k) (c2+gx T2 k)
       simp only[Int.mul_add,Int.mul_sub] at e ⊢
       omega
      ·obtain rfl:c2=0:=by omega
       go_wp2
       obtain⟨hl,hu,hv,hr,hg⟩:=HT2.out
       rw[Int.mul_zero,Int.add_zero] at hv
       refine⟨⟨i+1,T2,by omega,by go_num,hl,hu,hv,hr,hg⟩,by simp[intOf];omega⟩
  ·obtain rfl:i=n:=by omega
   have hltI:¬(i:Int)<(i:Int):=by omega
   have k0:=hXr.ca0
   have k2:=hXr.cb0
   clear hXr
   go_wp2_with fail
   obtain⟨hl,hu,hv,hr,hg⟩:=H.out
   have hXe:=hX3.later hg
   refine(bE (!(s==t)) (some ⟨w.heap.size+1+1+1,0,none⟩) (i+m+1) (i+m+1) D _ hl (Nat.le_refl _) (by unfold maxLen;omega) hr.aQ).mono ?_
   rintro e w4 ⟨rfl,hb4⟩
   have HE:Hid (D.length=i+m+1∧vd D=vd (xs.take i)*vd ys):=⟨hl,hv⟩
   clear hl hv k0 k1 k2 k3
   obtain⟨c0',c1',f0,f1⟩:=bM hb4 hXe.cr0 hXe.cr1 hXe.fr0 hXe.fr1
   go_wp2
   have hsz:=hX3.size
   have hsW:=HWs.out
   refine bodyPost_ret (v:=.agg #[.bool (nsg (!(s==t)) D),.slice (some ⟨w.heap.size+1+1+1,0,none⟩) (ad D) (ad D)]) (by simp[results,Tryz.results43,go_sem,c0',c1']) rfl ?_
   refine mf hX3.below (r:=w.heap.size+1+1) (by omega) (by omega) hg hb4 hr.aQ (aL (by omega)) hu (by have:=HE.out.1;omega) (by omega) ?_
   have hv:=HE.out.2
   rw[List.take_of_length_le (by have:=HN.out;omega)] at hv
   rw[ag,hv,ag,ag]
   cases s<;>cases t<;>simp[Int.neg_mul,Int.mul_neg]
theorem vA{w:World}{s t:Bool}{p q:Option Addr}{n m:Nat}{xs ys:List Int}(h:RN w s p n xs)(k:RN w t q m ys)(hn:n≤1000000)(hm:m≤1000000):
  Calls Tryz.prog 43 #[.agg #[.bool s,.slice p n n],.agg #[.bool t,.slice q m m]] w (fc (n+m+1) (ag s xs*ag t ys) w):=
 AN s t p q n n m m xs ys w h.len k.len hn hm h.rd h.u k.rd k.u
end Go.Proofs.YtfnkomoickanfaaGreatDoor
