/- Own. -/
import Derived.Test.YtfnkomoickanfaaGreatDoorL2
set_option linter.unusedVariables false
set_option linter.unusedSimpArgs false
set_option maxHeartbeats 8000000
set_option maxRecDepth 100000
namespace Go.Proofs.YtfnkomoickanfaaGreatDoor
open Go.RowKit
theorem BI(n j:Nat):dw n (j+1)=dw n j*(-((n:Int)-j))/((j:Int)+1):=rfl
theorem nW(n:Nat)(hn:n≤8)(w:World):
  Calls Tryz.prog 27 #[.int .i64 n] w fun r w'=>∃p hs,r=.returned (.slice p (n+1) (n+1))∧NO w.heap.size w' 2 1 (dX n) p (n+1) hs∧Below w.heap.size w w':=by
 have hmk:=yB (n+1) (by omega)
 have v0:IntKind.i64.wrap ((n:Int)+1)=(n:Int)+1:=by rw[IntKind.wrap_i64];omega
 rw[show((n+1:Nat):Int)=(n:Int)+1 by omega] at hmk
 go_enter Tryz.func27,Tryz.ntmps27
 go_wp2_with fail
 have hB0:Below w.heap.size w (w.alloc (.cells ((hzs (n+1)).map Hdr.val).toArray 51)):=(Below.refl _ _).alloc (Nat.le_refl _) _
 have hR0:HB (w.alloc (.cells ((hzs (n+1)).map Hdr.val).toArray 51)) w.heap.size (hzs (n+1)):=heap_alloc_new w _
 have hs0:w.heap.size<(w.alloc (.cells ((hzs (n+1)).map Hdr.val).toArray 51)).heap.size:=by rw[World.size_alloc];omega
 generalize w.alloc (.cells ((hzs (n+1)).map Hdr.val).toArray 51)=W at *
 refine(zG 1 W (by decide) (by decide)).mono ?_
 rintro r w1 ⟨u,rfl,hu,hb1⟩
 have HI:Hid (DfI w (w1.alloc (.cells #[.bool u.s,.slice u.p u.n u.c] 24)) w.heap.size w1.heap.size n (n+1) (dw n 0) (hzs (n+1)) u):=by
  have hb2:=af (o:=.cells #[.bool u.s,.slice u.p u.n u.c] 24) hb1
  have h9:=hb1.size
  exact⟨hR0.below hb2 hs0,by simp[hzs],fun r h1 h2=>by omega,cV w1 _,((hu.mono hs0).fit (by decide)).below (af (Below.refl _ _)),by omega,Nat.le_refl _,ae hB0 hb2⟩
 clear hB0 hR0 hs0 hu hb1 hmk
 go_wp2_with fail
 generalize w1.alloc (.cells #[.bool u.s,.slice u.p u.n u.c] 24)=W2 at *
 generalize w.heap.size=g at *
 generalize w1.heap.size=gc at *
 go_loopw [5] (fun iv wr=>∃(k:Nat) (z:Int) (hs:List Hdr) (u:Ent),k≤n+1∧iv=.int .i64 ((k:Int)-1)∧z=dw n (n+1-k)∧Hid (DfI w wr g gc n k z hs u)) (fun iv _=>(intOf iv+1).toNat)
 case atStart=>exact⟨n+1,_,_,u,Nat.le_refl _,by go_num,by rw[Nat.sub_self],HI.out⟩
 case round=>
  clear HI
  obtain⟨k,z,hs,u,hk,rfl,hz,H⟩:=hrel
  have hcs:Hid (k=0∨∃j,k=j+1):=by cases k with|zero=>exact .inl rfl|succ j=>exact .inr ⟨j,rfl⟩
  rcases hcs.out with rfl|⟨j,rfl⟩
  ·have HN:Hid (NO w.heap.size wr 2 1 (dX n) (some ⟨g,0,none⟩) (n+1) hs∧Below w.heap.size w wr):=⟨H.out.no hn,H.out.bw⟩
   clear H hcs hz
   go_wp2
   go_ret
   exact⟨_,hs,rfl,HN.out⟩
  ·have hV:=H.out
   have i0:((j+1:Nat):Int)-1=(j:Int):=by omega
   have i2:(0:Int)≤(j:Int):=by omega
   have i3:(j:Int)<((n+1:Nat):Int):=by omega
   have ez:n+1-(j+1)=n-j:=by omega
   rw[ez] at hz
   subst hz
   have hP:=hV.put1 (by omega)
   have q0:wr.cell? ⟨gc,0,none⟩=some (.bool u.s):=by rw[cell_of_row wr gc 0 _ _ _ hV.bc];rfl
   have q1:wr.cell? ⟨gc,1,none⟩=some (.slice u.p u.n u.c):=by rw[cell_of_row wr gc 1 _ _ _ hV.bc];rfl
   have hrow:=(hV.later (af (o:=.cells #[.bool u.s,.slice u.p u.n u.c] 24) (Below.refl wr.heap.size wr))).row
   have hcell:=hrow.cell j (by rw[hV.hl];omega)
   have hfr:=hrow.frozen j
   have HP:Hid _:=hP
   rw[i0]
   clear hcs hV hrow hP H
   go_upto_region 7 with fail
   clear hcell hfr q0 q1
   generalize (wr.alloc (.cells #[.bool u.s,.slice u.p u.n u.c] 24)).setCell ⟨g,j,none⟩ (.slice (some ⟨wr.heap.size,0,none⟩) 1 1)=WW at *
   generalize hs.set j ⟨some ⟨wr.heap.size,0,none⟩,1,1⟩=hs' at *
   have q0:WW.cell? ⟨gc,0,none⟩=some (.bool u.s):=by rw[cell_of_row WW gc 0 _ _ _ HP.out.bc];rfl
   have q1:WW.cell? ⟨gc,1,none⟩=some (.slice u.p u.n u.c):=by rw[cell_of_row WW gc 1 _ _ _ HP.out.bc];rfl
   have f0:=frozen_of_row WW gc 0 _ _ HP.out.bc
   have f1:=frozen_of_row WW gc 1 _ _ HP.out.bc
   have hBX:Bx WW gc (.bool u.s) (.slice u.p u.n u.c):=⟨q0,q1,f0,f1⟩
   have hcur:Below WW.heap.size WW WW:=Below.refl _ _
   have hu:=HP.out.v
   have v1:IntKind.i64.wrap (-(j:Int)) = -(j:Int):=by rw[IntKind.wrap_i64];omega
   have v2:IntKind.i64.wrap ((n:Int)-j)=(n:Int)-j:=by rw[IntKind.wrap_i64];omega
   have v3:IntKind.i64.wrap ((n:Int)-j+1)=(n:Int)-j+1:=by rw[IntKind.wrap_i64];omega
   clear f0 f1
   go_region_with (first
    |(go_at_call 64;go_fit (zG (-(j:Int)) _ (by omega) (by omega));rintro r x1 ⟨a,rfl,ha,hb1⟩;have hb1:=aC hb1;have hcur:=ae hcur hb1;have q0:=cell_later hb1 q0;have q1:=cell_later hb1 q1;(try have hb:=NV.below hb hb1))
    |(go_at_call 64;go_fit (zG ((n:Int)-j+1) _ (by omega) (by omega));rintro r x1 ⟨b,rfl,hb,hb1⟩;have hcur:=ae hcur hb1;(try have hm:=NV.below hm hb1))
    |(go_at_call 66;go_fit (CJ (K:=1) (L:=2) ((hu.below hcur).ev (by decide)) (ha.ev (by decide)) (by decide));rintro r x1 ⟨m,rfl,hm,hb1⟩;have hcur:=ae hcur hb1;(try have hb:=NV.below hb hb1))
    |(go_at_call 65;go_fit (CK (K:=3) (L:=2) (hm.ev (by decide)) (hb.ev (by decide)) (by omega) (by decide));rintro r x1 ⟨e1,e2,rfl,he,he2,hb1⟩;have he:=NV.mono he (Nat.le_trans HP.out.row.lt hcur.size);have hcur:=ae hcur hb1;obtain⟨z0,z1,f0,f1⟩:=hBX.later hcur))
   all_goals
    have hz:dw n (n-j)*(-(j:Int))/((n:Int)-j+1)=dw n (n+1-j):=by
     rw[show n+1-j=(n-j)+1 by omega,BI]
     congr 1
     ·congr 1;omega
     ·omega
    rw[hz] at he
    have HN:Hid (DfI w ((x1.setCell ⟨gc,0,none⟩ (.bool e1.s)).setCell ⟨gc,1,none⟩ (.slice e1.p e1.n e1.c)) g gc n j (dw n (n+1-j)) hs' e1):=by
     exact(HP.out.later hcur).put2 (he.fit (DU hn (by omega)))
    clear hz he he2 ha hm hb hu hcur q0 q1 z0 z1 f0 f1 hb1 hBX HP
    go_wp2
    go_roundw
    case rel=>exact⟨j,_,hs',e1,by omega,by go_num,rfl,HN.out⟩
    case measure=>simp[intOf]
theorem qW{w:World}{B T K E D:Nat}{zss:List (List Int)}{h k:Hdr}(H:HR D (EZ K E) w B T zss h)(hT:T≤w.heap.size)(hD:D≤1000000)(hE:E≤1000000)(hk:k.n≤1000000):
  Calls Tryz.prog 62 #[.slice h.p h.n h.c,.slice k.p k.n k.c] w fun r w'=>r=.returned (.int .i64 ((k.n:Int)-((aD zss:Int)-1)))∧Below w.heap.size w w':=by
 have ho:=ox H hT hD hE
 have hz:aD zss≤D:=by
  obtain⟨hs,kk⟩:=H
  have h1:=kk.tl
  have h2:=ee zss
  have h3:=kk.few
  omega
 have v1:IntKind.i64.wrap ((k.n:Int)-((aD zss:Int)-1))=(k.n:Int)-((aD zss:Int)-1):=by rw[IntKind.wrap_i64];omega
 generalize (aD zss:Int)-1=y at *
 clear H hz
 go_enter Tryz.func62,Tryz.ntmps62
 go_wp2_with fail
 refine ho.mono ?_
 rintro r w1 ⟨rfl,hb⟩
 clear ho
 go_wp2
 go_ret
 exact⟨rfl,hb⟩
theorem uA{w:World}{B T K E D:Nat}{zss:List (List Int)}{h k:Hdr}(H:HR D (EZ K E) w B T zss h)(hT:T≤w.heap.size)(hD:D≤1000000)(hE:E≤1000000)(hk:k.n+1≤aD zss):
  Calls Tryz.prog 26 #[.slice h.p h.n h.c,.slice k.p k.n k.c] w fun r w'=>r=.returned (.pointer (some ⟨w.heap.size,0,none⟩))∧SQ w' w.heap.size K E D B T zss h k ⟨none,0,0⟩∧Below w.heap.size w w':=by
 have hz:aD zss≤D:=by
  obtain⟨hs,kk⟩:=H
  have h1:=kk.tl
  have h2:=ee zss
  have h3:=kk.few
  omega
 have hb0:=af (o:=.cells #[.slice h.p h.n h.c,.slice k.p k.n k.c,.slice none 0 0] 84) (Below.refl w.heap.size w)
 have HX:Hid (HR D (EZ K E) w B T zss h∧T≤w.heap.size∧0<aD zss):=⟨H,hT,by omega⟩
 have hr:=qW (k:=k) ((bK (fO K E)).below H hT hb0) (Nat.le_trans hT hb0.size) hD hE (by omega)
 have i1:¬(0:Int)<(k.n:Int)-((aD zss:Int)-1):=by omega
 have hnew:=cV w (.cells #[.slice h.p h.n h.c,.slice k.p k.n k.c,.slice none 0 0] 84)
 generalize (k.n:Int)-((aD zss:Int)-1)=y at *
 clear H hT hz hk
 go_enter Tryz.func26,Tryz.ntmps26
 go_wp2_with fail
 refine hr.mono ?_
 rintro r w1 ⟨rfl,hb⟩
 have hb1:=ae hb0 hb
 have HS:Hid (SQ w1 w.heap.size K E D B T zss h k ⟨none,0,0⟩∧Below w.heap.size w w1):=by
  have hc:w1.heap[w.heap.size]?=some (.cells #[.slice h.p h.n h.c,.slice k.p k.n k.c,.slice none 0 0] 84 (0,0)):=(hb.block _ (by rw[World.size_alloc];omega)).trans hnew
  exact⟨⟨by rw[cell_of_row w1 _ 0 _ _ _ hc];rfl,by rw[cell_of_row w1 _ 1 _ _ _ hc];rfl,by rw[cell_of_row w1 _ 2 _ _ _ hc];rfl,(bK (fO K E)).below HX.out.1 HX.out.2.1 hb1,Nat.le_trans HX.out.2.1 hb1.size,HX.out.2.2,hD,hE⟩,hb1⟩
 clear hr hb hb1 hb0 hnew HX
 go_wp2_with fail
 go_loopw [14] (fun iv wr=>iv=.int .i64 0∧wr=w1) (fun _ _=>0)
 case atStart=>exact⟨by go_num,rfl⟩
 case round=>
  obtain⟨rfl,rfl⟩:=hrel
  go_wp2
  go_ret
  exact⟨rfl,HS.out⟩
theorem DF{w:World}{b:Nat}{e:Rq}{t:TypeId}(h:w.heap[b]?=some (.cells #[.bool e.s,.slice e.p e.n e.c,.bool e.t,.slice e.q e.m e.d] t (0,0))):RL w (some ⟨b,0,none⟩) [e]:=fun _=>⟨b,0,rfl,fun j hj=>by
 obtain rfl:j=0:=by simp at hj;omega
 refine⟨?_,?_,?_,?_⟩
 ·rw[cell_of_row w b _ _ _ _ h];rfl
 ·rw[cell_of_row w b _ _ _ _ h];rfl
 ·rw[cell_of_row w b _ _ _ _ h];rfl
 ·rw[cell_of_row w b _ _ _ _ h];rfl⟩
theorem ve:aD (dX 1)=2:=by decide +kernel
theorem uz{w:World}{K:Nat}{s t:Bool}{p q:Option Addr}{n nc m mc:Nat}{z:Rat}(ha:AQ w K s p n nc t q m mc z)(hK:1≤K)(hK':K<150):
  Calls Tryz.prog 7 #[.agg #[.bool s,.slice p n nc,.bool t,.slice q m mc]] w fun r w'=>∃(g T:Nat) (h k:Hdr) (rs:List Rq),r=.returned (.pointer (some ⟨g,0,none⟩))∧SQ w' g 2 1 2 w.heap.size T (dX 1) h k ⟨none,0,0⟩∧k.n=1∧WA (EQa K) w' k.p k.n k.c rs [z]∧Below w.heap.size w w':=by
 have hdf:∀w:World,Calls Tryz.prog 27 #[.int .i64 1] w fun r w'=>∃p hs,r=.returned (.slice p 2 2)∧NO w.heap.size w' 2 1 (dX 1) p 2 hs∧Below w.heap.size w w':=fun w=>nW 1 (by decide) w
 have hal:=af (o:=.cells #[.bool s,.slice p n nc,.bool t,.slice q m mc] 26) (Below.refl w.heap.size w)
 have HA:Hid (AQ (w.alloc (.cells #[.bool s,.slice p n nc,.bool t,.slice q m mc] 26)) K s p n nc t q m mc z∧1≤K∧K<150∧Below w.heap.size w (w.alloc (.cells #[.bool s,.slice p n nc,.bool t,.slice q m mc] 26))):=⟨ha.below hal,hK,hK',hal⟩
 have hnew:=cV w (.cells #[.bool s,.slice p n nc,.bool t,.slice q m mc] 26)
 clear ha hK hK' hal
 go_enter Tryz.func7,Tryz.ntmps7
 go_wp2_with fail
 generalize w.alloc (.cells #[.bool s,.slice p n nc,.bool t,.slice q m mc] 26)=W at *
 have q0:W.cell? ⟨w.heap.size,0,none⟩=some (.bool s):=by rw[cell_of_row W _ 0 _ _ _ hnew];rfl
 have q1:W.cell? ⟨w.heap.size,1,none⟩=some (.slice p n nc):=by rw[cell_of_row W _ 1 _ _ _ hnew];rfl
 have q2:W.cell? ⟨w.heap.size,2,none⟩=some (.bool t):=by rw[cell_of_row W _ 2 _ _ _ hnew];rfl
 have q3:W.cell? ⟨w.heap.size,3,none⟩=some (.slice q m mc):=by rw[cell_of_row W _ 3 _ _ _ hnew];rfl
 have hcur:Below W.heap.size W W:=Below.refl _ _
 have hws:Hid (w.heap.size≤W.heap.size):=HA.out.2.2.2.size
 clear hnew
 go_region_with (first
  |(go_at_call 27;go_fit (hdf _);rintro r x1 ⟨p2,hs2,rfl,hN,hb1⟩;have hN:=NO.mono hN hws.out;have hb1:=aC hb1;have hcur:=ae hcur hb1;(try have q0:=cell_later hb1 q0);(try have q1:=cell_later hb1 q1);(try have q2:=cell_later hb1 q2);(try have q3:=cell_later hb1 q3))
  |(go_at_call 28;go_fit (Cf (HA.out.1.below hcur) HA.out.2.1 HA.out.2.2.1);rintro r x2 ⟨s1,p1,n1,t1,q1',m1,rfl,hQ,hb2⟩;have hN:=hN.below hb2;have hcur:=ae hcur hb2;have hal:=af (o:=.cells #[.bool s1,.slice p1 n1 n1,.bool t1,.slice q1' m1 m1] 26) (Below.refl x2.heap.size x2);have hnw:=cV x2 (.cells #[.bool s1,.slice p1 n1 n1,.bool t1,.slice q1' m1 m1] 26);have hW:=((hQ.aq (by have:=HA.out.2.2.1;omega)).below hal);have hN:=hN.below hal;have hcur:=ae hcur hal)
  |(go_at_call 26;(have hc:=uA (h:=⟨p2,2,2⟩) (k:=⟨some ⟨x2.heap.size,0,none⟩,1,1⟩) (hN.hr (by decide) (by decide) (by decide)) (Nat.le_refl _) (by decide) (by decide) (Nat.le_of_eq ve.symm);dsimp only at hc;go_fit hc;rintro r x3 ⟨rfl,hS,hb3⟩)))
 all_goals
  rw[World.size_alloc] at hS
  have HF:Hid (SQ x3 (x2.heap.size+1) 2 1 2 w.heap.size (x2.heap.size+1) (dX 1) ⟨p2,2,2⟩ ⟨some ⟨x2.heap.size,0,none⟩,1,1⟩ ⟨none,0,0⟩∧WA (EQa K) x3 (some ⟨x2.heap.size,0,none⟩) 1 1 [⟨s1,p1,n1,n1,t1,q1',m1,m1⟩] [z]∧Below w.heap.size w x3):=by
   have hB3:=ae hcur hb3
   have hs:=HA.out.2.2.2.size
   obtain⟨c0,c1,c2,hop,hT,nz,D6,E6⟩:=hS
   refine⟨⟨c0,c1,c2,?_,hT,nz,D6,E6⟩,⟨rfl,rfl,Nat.le_refl _,by decide,nofun,(DF hnw).below hb3,fun j hj=>?_⟩,ae HA.out.2.2.2 hB3⟩
   ·exact hop
   ·obtain rfl:j=0:=by omega
    exact hW.below hb3
  clear hcur hN hW hS hb3 hnw hal hQ
  go_wp2
  go_ret
  exact⟨_,_,_,⟨some ⟨x2.heap.size,0,none⟩,1,1⟩,[⟨s1,p1,n1,n1,t1,q1',m1,m1⟩],rfl,HF.out.1,rfl,HF.out.2⟩
theorem BV(i:Nat):((gx [1] i).natAbs:Int)<pw 2:=by
 match i with
 |0=>decide
 |i+1=>simp[gx];decide
def DeP(l:List (List Int))(D Q:Nat)(zs:List Rat)(w:World)(e:Ending)(w':World):Prop:=
 (e=.returned (.tuple #[.pointer none,.int .i64 4])∨∃(base gs B T:Nat) (h:Hdr) (wv v:Value) (rs:List Rq),e=.returned (.tuple #[.pointer (some ⟨gs,0,none⟩),.int .i64 0])∧RS w' base gs B T 4 1 D Q l h wv v rs zs∧w.heap.size≤base∧∀y,wv≠.int .i64 y)∧Below w.heap.size w w'
theorem Ay{l:List (List Int)}(h:∀j,(gt l j).length≤1):dS l≤0:=by
 have:∀(l:List (List Int)) (m:Int),m≤0→(∀z∈l,z.length≤1)→l.foldl (fun m z=>max m ((ad z:Int)-1)) m≤0:=by
  intro l
  induction l with
  |nil=>intro m hm _;exact hm
  |cons z l ih=>
   intro m hm hz
   refine ih _ ?_ fun y hy=>hz y (List.mem_cons_of_mem _ hy)
   have h1:=hz z (List.mem_cons_self ..)
   have h2:=ao z
   show max m ((ad z:Int)-1)≤0
   omega
 refine this l (-1) (by decide) fun z hz=>?_
 obtain⟨j,hj,rfl⟩:=List.getElem_of_mem hz
 have:=h j
 simpa [gt,hj] using this
theorem qU{w:World}{B T D Q m:Nat}{zss l:List (List Int)}{h k:Hdr}{rs0:List Rq}{zs:List Rat}(H:HR D (EZ 2 1) w B T zss h)(hT:T≤w.heap.size)(hD:D≤20)(hl:oz zss=l)(hm:aD zss=m+1)(hm0:0<m)(hg:gt l m=[1])(hS:SzB l)(G:WA (EQa Q) w k.p k.n k.c rs0 zs)(hk:k.n=m)(hQ:1≤Q)(hQ':Q≤400)(hqb:∀j,j<m→qb (gq zs j)≤1000000):
  Calls Tryz.prog 8 #[.slice h.p h.n h.c,.slice k.p k.n k.c] w (DeP l D Q zs w):=by
 have hmD:m+1≤D:=by
  obtain⟨hs,kk⟩:=H
  have h1:=kk.tl
  have h2:=ee zss
  have h3:=kk.few
  omega
 have hlen:l.length=m+1:=by
  rw[←hl]
  simp only[oz,List.length_map,List.length_take]
  have:=ee zss
  omega
 have hfr:Calls Tryz.prog 29 #[.slice h.p h.n h.c] w fun e w'=>∃p,e=.returned (.slice p (m+1) (m+1))∧HR D (EY 4 1) w' w.heap.size w'.heap.size l ⟨p,m+1,m+1⟩∧Below w.heap.size w w':=by
  refine(wU H hT (by omega) (by decide) (by decide)).mono ?_
  rintro e w' ⟨u,rfl,h1,h2⟩
  rw[qC,hm] at h1 ⊢
  rw[AB,hl] at h1
  exact⟨u,rfl,h1,h2⟩
 have HX:Hid (WA (EQa Q) w k.p k.n k.c rs0 zs∧(∀j,j<m→qb (gq zs j)≤1000000)∧gt l m=[1]∧SzB l∧l.length=m+1∧1≤Q∧Q≤400):=⟨G,hqb,hg,hS,hlen,hQ,hQ'⟩
 obtain⟨p,n,nc⟩:=h
 obtain⟨kp,kn,kc⟩:=k
 simp only at hk hfr HX ⊢
 subst hk
 clear H hT hl hm G hqb hg hS hlen hQ hQ'
 have i1:¬(4096:Int)<(kn:Int):=by omega
 have e0:¬(((kn+1:Nat):Int)=0):=by omega
 have e1:((kn+1:Nat):Int)-1=(kn:Int):=by omega
 go_enter Tryz.func8,Tryz.ntmps8
 go_wp2_with fail
 go_fit hfr
 rintro r w1 ⟨p6,rfl,hO,hb1⟩
 clear hfr
 have HO:Hid (HR D (EY 4 1) w1 w.heap.size w1.heap.size l ⟨p6,kn+1,kn+1⟩∧Below w.heap.size w w1):=⟨hO,hb1⟩
 clear hO hb1
 have hwi:=qV (HX.out.1.below (dP Q) HO.out.2) HX.out.2.2.2.2.2.1 HX.out.2.2.2.2.2.2 (by omega)
 go_wp2_with fail
 go_fit hwi
 rintro r w2 ⟨q,m2,mc,rs,rfl,hW,hb2⟩
 obtain rfl:m2=kn:=by have h1:=hW.zl;have h2:=HX.out.1.zl;omega
 clear hwi
 have HW:Hid (HR D (EY 4 1) w2 w.heap.size w1.heap.size l ⟨p6,m2+1,m2+1⟩∧w1.heap.size≤w2.heap.size∧WA (EM Q) w2 q m2 mc rs zs∧Below w.heap.size w w2):=⟨(bK (bJ 4 1)).below HO.out.1 (Nat.le_refl _) hb2,hb2.size,hW,ae HO.out.2 hb2⟩
 generalize w1.heap.size=T1 at *
 clear hW hb2 HO
 have hte:=xa (n:=(m2:Int)) HW.out.1 HW.out.2.1 HW.out.2.2.1 (by omega) (by decide) (by decide) HX.out.2.2.2.2.2.2 (by omega) HX.out.2.1 HX.out.2.2.2.1 ⟨by omega,by omega⟩
 generalize max (tms [smf (m2:Int) 1,lP l+1,sms [lN l,pmf (lO l+1) ((zb (m2:Int):Int)+1),8]]) (tms [smf (m2:Int) 1,(wbt zs:Int)+1])=tv at *
 go_wp2_with fail
 go_fit hte
 rintro r w3 ⟨rfl,hb3⟩
 clear hte
 have HV:Hid (HR D (EY 4 1) w3 w.heap.size T1 l ⟨p6,m2+1,m2+1⟩∧T1≤w3.heap.size∧WA (EM Q) w3 q m2 mc rs zs∧Below w.heap.size w w3):=⟨(bK (bJ 4 1)).below HW.out.1 HW.out.2.1 hb3,Nat.le_trans HW.out.2.1 hb3.size,HW.out.2.2.1.below (cU Q) hb3,ae HW.out.2.2.2 hb3⟩
 clear hb3 HW
 rcases Int.lt_or_le 1048576 tv with hbig|hsm
 ·go_wp2
  refine bodyPost_ret (v:=.tuple #[.pointer none,.int .i64 4]) (by simp[results,Tryz.results8,go_sem]) rfl ⟨.inl rfl,HV.out.2.2.2⟩
 ·have d1:decide ((1048576:Int)<tv)=false:=decide_eq_false (by omega)
  clear hsm
  have ho:=eC w3 p6 (m2+1) (m2+1) (by omega)
  rw[e1] at ho
  have d2:decide ((256:Int)<(m2:Int))=false:=decide_eq_false (by omega)
  go_wp2_with fail
  go_fit ho
  rintro r w4 ⟨rfl,rfl⟩
  clear ho
  have hdg:=lM HV.out.1 HV.out.2.1 (by omega) (by decide)
  have hle:dS l≤0:=Ay fun j=>by
   obtain⟨hs,kk⟩:=HV.out.1
   rcases Nat.lt_or_ge j (m2+1) with hj|hj
   ·obtain⟨fs,hP,-,-,h6,-⟩:=kk.ev j hj
    have h7:=hP.zl
    omega
   ·rw[dM _ _ (by rw[HX.out.2.2.2.2.1];exact hj)]
    exact Nat.zero_le _
  have d3:decide ((256:Int)<dS l)=false:=decide_eq_false (by omega)
  generalize dS l=dg at *
  clear hle
  go_wp2_with fail
  go_fit hdg
  rintro r w5 ⟨rfl,hb5⟩
  clear hdg
  have HV5:Hid (HR D (EY 4 1) w5 w.heap.size T1 l ⟨p6,m2+1,m2+1⟩∧T1≤w5.heap.size∧WA (EM Q) w5 q m2 mc rs zs∧Below w.heap.size w w5):=⟨(bK (bJ 4 1)).below HV.out.1 HV.out.2.1 hb5,Nat.le_trans HV.out.2.1 hb5.size,HV.out.2.2.1.below (cU Q) hb5,ae HV.out.2.2.2 hb5⟩
  clear hb5 HV
  have hne:=yE (K:=2) (L:=1) HV5.out.1 HV5.out.2.1 (by omega) (by rw[HX.out.2.2.2.2.1];omega) (by rw[HX.out.2.2.2.2.1];exact⟨0,by rw[show m2+1-1=m2 by omega,HX.out.2.2.1];decide⟩) (by decide) (by decide) (by decide) (by decide) (by decide) (by rw[HX.out.2.2.2.2.1];intro i;rw[show m2+1-1=m2 by omega,HX.out.2.2.1];exact BV i) (by decide) (by rw[HX.out.2.2.2.2.1,show m2+1-1=m2 by omega,HX.out.2.2.1];decide) (by rw[HX.out.2.2.2.2.1,show m2+1-1=m2 by omega,HX.out.2.2.1];decide)
  rw[HX.out.2.2.2.2.1,show m2+1-1=m2 by omega,HX.out.2.2.1,Cb,show Int.toNat ((2:Int)^(1+1)+1-0)=5 by decide,AX,e1] at hne
  unfold ned at hne
  rw[List.foldl_nil] at hne
  simp only at hne
  go_wp2_with fail
  go_fit hne
  rintro r w6 ⟨u,rfl,hu,hb6⟩
  clear hne
  have hal:=af (o:=.cells #[.bool u.s,.slice u.p u.n u.c] 43) (Below.refl w6.heap.size w6)
  have hb7:=ae hb6 hal
  have HV7:Hid (HR D (EY 4 1) (w6.alloc (.cells #[.bool u.s,.slice u.p u.n u.c] 43)) w.heap.size T1 l ⟨p6,m2+1,m2+1⟩∧T1≤(w6.alloc (.cells #[.bool u.s,.slice u.p u.n u.c] 43)).heap.size∧WA (EM Q) (w6.alloc (.cells #[.bool u.s,.slice u.p u.n u.c] 43)) q m2 mc rs zs∧Below w.heap.size w (w6.alloc (.cells #[.bool u.s,.slice u.p u.n u.c] 43))):=⟨(bK (bJ 4 1)).below HV5.out.1 HV5.out.2.1 hb7,Nat.le_trans HV5.out.2.1 hb7.size,HV5.out.2.2.1.below (cU Q) hb7,ae HV5.out.2.2.2 hb7⟩
  have hnew:=cV w6 (.cells #[.bool u.s,.slice u.p u.n u.c] 43)
  have hu:=hu.below hal
  clear hal hb7 hb6 HV5
  go_wp2_with fail
  generalize w6.alloc (.cells #[.bool u.s,.slice u.p u.n u.c] 43)=W at *
  have q0:W.cell? ⟨w6.heap.size,0,none⟩=some (.bool u.s):=by rw[cell_of_row W _ 0 _ _ _ hnew];rfl
  have q1:W.cell? ⟨w6.heap.size,1,none⟩=some (.slice u.p u.n u.c):=by rw[cell_of_row W _ 1 _ _ _ hnew];rfl
  generalize w6.heap.size=g8 at *
  clear hnew
  go_region_with (first
   |(go_at_call 21;go_fit (gZ (m2:Int) _ (by omega) (by omega));rintro r x1 ⟨f,rfl,hf,-,hb1⟩;have hb1:=aC hb1;have hu1:=hu.below hb1;have q0:=cell_later hb1 q0;have q1:=cell_later hb1 q1)
   |(go_at_call 35;go_fit (lL hu1 hf (by decide) (by decide));rintro r x2 ⟨rfl,hb2⟩))
  all_goals
   have hb3:=ae hb1 hb2
   have HV8:Hid (HR D (EY 4 1) x2 w.heap.size T1 l ⟨p6,m2+1,m2+1⟩∧T1≤x2.heap.size∧WA (EM Q) x2 q m2 mc rs zs∧Below w.heap.size w x2):=⟨(bK (bJ 4 1)).below HV7.out.1 HV7.out.2.1 hb3,Nat.le_trans HV7.out.2.1 hb3.size,HV7.out.2.2.1.below (cU Q) hb3,ae HV7.out.2.2.2 hb3⟩
   clear hb1 hb2 hb3 HV7 hu hu1 hf q0 q1
   rw[c5]
   have ho:=eC x2 p6 (m2+1) (m2+1) (by omega)
   rw[e1] at ho
   have v3:IntKind.i64.wrap (m2:Int)=(m2:Int):=by rw[IntKind.wrap_i64];omega
   go_wp2_with fail
   go_fit ho
   rintro r w9 ⟨rfl,rfl⟩
   clear ho
   go_wp2_with fail
   go_loopw [10] (fun iv wr=>iv=.int .i64 0∧wr=w9) (fun _ _=>0)
   case atStart=>exact⟨by go_num,rfl⟩
   case round=>
    obtain⟨rfl,rfl⟩:=hrel
    obtain⟨i0,hi,hzz⟩:=Option.map_eq_some_iff.1 lC
    simp only[Prod.mk.injEq] at hzz
    obtain⟨hz0,hz1,hz2⟩:=hzz
    have hel:=HV8.out.2.2.1.el
    obtain⟨b2,o2,hq2,hcl⟩:=HV8.out.2.2.1.rl (by omega)
    have hnw:=Ab hcl
    subst hq2
    clear hcl
    go_wp2_with (at_builtin;refine wpList_append_lies _ rfl _ _ 70 rfl wr.heap.size 45 i0 (.agg #[.bool false,.slice none 0 0,.bool false,.slice none 0 0]) 4 64 Tryz.underlying70 hi hz0 hz1 hz2 rfl (by decide) (.slice none 0 0) 0 [] rfl (World.ownsRow_nil _ _ _ _) ⟨b2,o2,none⟩ m2 mc (frl rs) rfl (by rw[kt,hel]) hnw BL hm0 (by unfold maxLen;omega) (by omega) (Nat.le_refl _) _ rfl ?_;intro g cap w3 hown3 hgrow3 hat3 hlt3)
    have hB3:Below wr.heap.size wr w3:=(Below.refl _ _).grown hgrow3 (Nat.le_refl _) (fun q hq=>by cases hq)
    obtain rfl:g=wr.heap.size:=hat3.resolve_left (fun h9=>by cases h9)
    rw[Nat.zero_add,List.nil_append] at hown3
    have hal:=af (o:=.cells #[.slice p6 (m2+1) (m2+1),.slice (some ⟨b2,o2,none⟩) m2 mc,.slice (some ⟨wr.heap.size,0,none⟩) m2 cap] 81) (Below.refl w3.heap.size w3)
    have hB4:=ae hB3 hal
    have hRS:RS (w3.alloc (.cells #[.slice p6 (m2+1) (m2+1),.slice (some ⟨b2,o2,none⟩) m2 mc,.slice (some ⟨wr.heap.size,0,none⟩) m2 cap] 81)) wr.heap.size w3.heap.size w.heap.size T1 4 1 D Q l ⟨p6,m2+1,m2+1⟩ (.slice (some ⟨b2,o2,none⟩) m2 mc) (.slice (some ⟨wr.heap.size,0,none⟩) m2 cap) rs zs:=by
     have hW:=HV8.out.2.2.1
     refine⟨cV w3 _,(bK (bJ 4 1)).below HV8.out.1 HV8.out.2.1 hB4,HV8.out.2.1,hB3.size,?_,fun h9=>by have h8:wr.heap.size=w3.heap.size:=Option.some.inj h9;omega⟩
     refine⟨?_,by rw[hW.zl,hel],fun j hj=>(cU Q).below (hW.ev j (by omega)) hB4,fun j hj=>?_⟩
     ·rw[hel]
      exact bW hown3 hal
     ·refine Rq.j_ ((cU Q).lt (hW.ev j (by omega))) fun b hb hq=>?_
      have h9:b=wr.heap.size:=Option.some.inj hq
      omega
    refine bodyPost_ret (v:=.tuple #[.pointer (some ⟨w3.heap.size,0,none⟩),.int .i64 0]) (by simp[results,Tryz.results8,go_sem]) rfl ⟨.inr ⟨_,_,_,_,_,_,_,_,rfl,hRS,HV8.out.2.2.2.size,fun y h9=>by cases h9⟩,ae HV8.out.2.2.2 hB4⟩
end Go.Proofs.YtfnkomoickanfaaGreatDoor
