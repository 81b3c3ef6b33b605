/- Own. -/
import Derived.Test.YtfnkomoickanfaaGreatDoorPc
set_option linter.unusedVariables false
set_option linter.unusedSimpArgs false
set_option maxHeartbeats 8000000
set_option maxRecDepth 100000
namespace Go.Proofs.YtfnkomoickanfaaGreatDoor
open Go.RowKit
theorem Ai:(Tryz.prog.info? 51).map (fun i=>(i.zero,i.size,i.bytes))=some (some (.slice none 0 0),1,24):=by kernel_rfl
theorem yB(n:Nat)(h:n≤1000000000)(w:World):(Instr.makeSlice 36 (.int .i64 n) (.int .i64 n)).run Tryz.prog w =
  .ok (.slice (some ⟨w.heap.size,0,none⟩) n n) (w.alloc (.cells ((hzs n).map Hdr.val).toArray 51)):=by
 have hi:=Ai
 cases hq:Tryz.prog.info? 51 with
 |none=>rw[hq] at hi;cases hi
 |some i=>
  rw[hq] at hi
  simp only[Option.map_some,Option.some.injEq,Prod.mk.injEq] at hi
  obtain⟨h1,h2,h3⟩:=hi
  have hr:=run_make (P:=Tryz.prog) w 36 51 i (.slice none 0 0) Tryz.underlying36 hq h1 .i64 .i64 n n (by omega) (Int.le_refl _) (by rw[h3];omega) (by omega)
  rw[Int.toNat_natCast,h2,Nat.mul_one] at hr
  rw[hr]
  exact congrArg (fun c=>Result.ok (Value.slice (some ⟨w.heap.size,0,none⟩) n n) (w.alloc (.cells c 51))) (BW n)
theorem zZ{B:Nat}{w:World}{K E:Nat}{p:Option Addr}{n:Nat}{es:List Ent}{zs:List Int}(h:PN B w K p n es zs)(hK:K≤1000)(hn:n≤E)(hE:E≤1000000):EZ K E w B w.heap.size zs ⟨p,n,n⟩:=by
 refine⟨es,h.pa hK (by omega),hn,fun a ha h0=>⟨h.fr a ha,?_⟩,fun j hj h0 a ha=>⟨?_,(sD K).lt ((h.ev j hj).ev hK) h0 a ha⟩⟩
 ·obtain⟨b,o,hp,hlt⟩:=h.pl.lt (by rw[h.el];exact h0)
  simp only at ha
  rw[hp] at ha
  cases ha
  exact hlt
 ·obtain⟨xs,k,-⟩:=h.ev j hj
  exact k.fr a ha
structure NO(B:Nat)(w:World)(K E:Nat)(l:List (List Int))(p:Option Addr)(n:Nat)(hs:List Hdr):Prop where
 el:hs.length=n
 tl:l.length=n
 hl:HL w p hs
 fr:az B p
 ev:∀j,j<n→(gh hs j).c=(gh hs j).n∧(gh hs j).n≤E∧∃es,PN B w K (gh hs j).p (gh hs j).n es (gt l j)
theorem NO.below{B:Nat}{w w':World}{K E:Nat}{l:List (List Int)}{p:Option Addr}{n:Nat}{hs:List Hdr}(h:NO B w K E l p n hs)(hb:Below w.heap.size w w'):NO B w' K E l p n hs:=
 ⟨h.el,h.tl,h.hl.below hb,h.fr,fun j hj=>let ⟨a,b,es,c⟩:=h.ev j hj;⟨a,b,es,c.below hb⟩⟩
theorem NO.cut{B:Nat}{w:World}{K E:Nat}{l:List (List Int)}{p:Option Addr}{n m:Nat}{hs:List Hdr}(h:NO B w K E l p n hs)(hm:m≤n):NO B w K E (l.take m) p m (hs.take m):=by
 refine⟨by have:=h.el;simp;omega,by have:=h.tl;simp;omega,fun hp=>?_,h.fr,fun j hj=>?_⟩
 ·have hl:0<m∧0<hs.length:=by simp at hp;omega
  obtain⟨b,o,hb,hc⟩:=h.hl hl.2
  refine⟨b,o,hb,fun j hj=>?_⟩
  have hj':j<m∧j<hs.length:=by simp at hj;omega
  rw[mn _ _ _ hj'.1]
  exact hc j hj'.2
 ·rw[mn _ _ _ hj,pC _ _ _ hj]
  exact h.ev j (by omega)
theorem NO.hr{B:Nat}{w:World}{K E:Nat}{l:List (List Int)}{p:Option Addr}{n:Nat}{hs:List Hdr}(h:NO B w K E l p n hs)(hK:K≤1000)(hE:E≤1000000)(hn:n≤1000000):HR n (EZ K E) w B w.heap.size l ⟨p,n,n⟩:=by
 refine⟨hs,h.el,h.tl,Nat.le_refl _,by show n≤maxLen;unfold maxLen;omega,fun e=>?_,Nat.le_refl _,h.hl,fun a ha h0=>⟨h.fr a ha,?_⟩,fun j hj=>?_⟩
 ·rcases Nat.eq_zero_or_pos n with h0|h0
  ·exact h0
  ·obtain⟨b,o,hb,-⟩:=h.hl (by rw[h.el];exact h0)
   simp only at e
   rw[hb] at e
   cases e
 ·obtain⟨b,o,hb,hc⟩:=h.hl (by rw[h.el];exact h0)
  simp only at ha
  rw[hb] at ha
  cases ha
  exact block_lt_of_cell (hc 0 (by rw[h.el];exact h0))
 ·obtain⟨a,b,es,c⟩:=h.ev j hj
  have h1:=zZ c hK b hE
  have e:(⟨(gh hs j).p,(gh hs j).n,(gh hs j).n⟩:Hdr)=gh hs j:=by
   generalize gh hs j=x at a
   obtain⟨x1,x2,x3⟩:=x
   simp only at a
   rw[a]
  rw[e] at h1
  exact h1
def otr(l:List (List Int)):List (List Int):=l.take (aD l)
def OpP(l:List (List Int))(K E:Nat)(w:World)(e:Ending)(w':World):Prop:=
 ∃p hs,e=.returned (.slice p (aD l) (aD l))∧NO w.heap.size w' K E (otr l) p (aD l) hs∧Below w.heap.size w w'
def CB(F:Nat→List Int)(K E g n i:Nat)(w wr:World):Prop:=
 ∃hs:List Hdr,HB wr g hs∧hs.length=n∧(∀r,r<i→(gh hs r).c=(gh hs r).n∧(gh hs r).n≤E∧∃es,PN (g+1) wr K (gh hs r).p (gh hs r).n es (F r))∧Below w.heap.size w wr∧w.heap.size≤g
theorem CB.step{F:Nat→List Int}{K E g n i:Nat}{w wr v3:World}{p3:Option Addr}{n3:Nat}{es3:List Ent}(h:CB F K E g n i w wr)(hi:i<n)(hv:Below wr.heap.size wr v3)(hN:PN (g+1) v3 K p3 n3 es3 (F i))(hE:n3≤E):CB F K E g n (i+1) w (v3.setCell ⟨g,i,none⟩ (.slice p3 n3 n3)):=by
 obtain⟨hs,h1,h2,h3,h4,h5⟩:=h
 refine⟨hs.set i ⟨p3,n3,n3⟩,(h1.below hv h1.lt).set i ⟨p3,n3,n3⟩,by simp[h2],fun r hr=>?_,(h4.trans (hv.mono h4.size)).setCell (p:=⟨g,i,none⟩) h5 _,h5⟩
 rw[ss _ _ _ _ (by omega)]
 by_cases e:r=i
 ·subst e
  rw[if_pos rfl]
  exact⟨rfl,hE,es3,hN.put (Nat.lt_succ_self g) _⟩
 ·rw[if_neg e]
  obtain⟨a,b,es,c⟩:=h3 r (by omega)
  exact⟨a,b,es,(c.below hv).put (Nat.lt_succ_self g) _⟩
theorem CB.no{F:Nat→List Int}{K E g n:Nat}{w wr:World}(h:CB F K E g n n w wr):∃hs,NO g wr K E ((List.range n).map F) (some ⟨g,0,none⟩) n hs:=by
 obtain⟨hs,h1,h2,h3,h4,h5⟩:=h
 refine⟨hs,h2,by simp,fun hp=>⟨g,0,rfl,fun j hj=>by rw[Nat.zero_add];exact h1.cell j hj⟩,fun a ha=>by cases ha;exact Nat.le_refl _,fun j hj=>?_⟩
 obtain⟨a,b,es,c⟩:=h3 j hj
 refine⟨a,b,es,?_⟩
 have e:gt ((List.range n).map F) j=F j:=by simp[gt,hj]
 rw[e]
 exact c.mono (Nat.le_succ g)
theorem NO.mono{B B':Nat}{w:World}{K E:Nat}{l:List (List Int)}{p:Option Addr}{n:Nat}{hs:List Hdr}(h:NO B w K E l p n hs)(hB:B'≤B):NO B' w K E l p n hs:=
 ⟨h.el,h.tl,h.hl,fun a ha=>Nat.le_trans hB (h.fr a ha),fun j hj=>let ⟨a,b,es,c⟩:=h.ev j hj;⟨a,b,es,c.mono hB⟩⟩
theorem tU{w:World}{B T K E D K' E':Nat}{zss:List (List Int)}{h:Hdr}(H:HR D (EZ K E) w B T zss h)(hT:T≤w.heap.size)(hD:D≤1000)(hE:E≤1000000)(hK':K'≤1000)(hE':E'≤1000000)(J:Nat)(C:Array Value)(hE0:∀args w',Sem.run Tryz.prog (callFunc J args) w'=.ok (.enter J args) w')(F:List Int→List Int)
  (hJ:∀wq i hd,i<aD zss→Below w.heap.size w wq→EZ K E wq B T (gt zss i) hd→Calls Tryz.prog J (#[Hdr.val hd]++C) wq (PnP (F (gt zss i)) K' wq)) (hF:∀i,i<aD zss→(F (gt zss i)).length≤E'):
  Calls Tryz.prog 82 #[.slice h.p h.n h.c,.func (.func J) #[] C] w (OpP ((List.range (aD zss)).map fun i=>F (gt zss i)) K' E' w):=by
 have ht:=lJ H hT (by omega) hE
 obtain⟨hs,k⟩:=H
 have hol:=ee zss
 have hn:aD zss≤D:=by have h1:=k.tl;have h2:=k.few;omega
 have HX:Hid (fa D (EZ K E) w B T (zss.take (aD zss)) ⟨h.p,aD zss,aD zss⟩ (hs.take (aD zss))∧T≤w.heap.size):=⟨k.cut _ (by have:=k.tl;omega),hT⟩
 obtain⟨p,n,nc⟩:=h
 simp only at ht HX ⊢
 have HJ:=(show Hid _ from hJ)
 have HF:=(show Hid _ from hF)
 clear hJ hF k hT
 generalize hm:aD zss=m at *
 have hmk:=yB m (by omega)
 go_enter Tryz.func82,Tryz.ntmps82
 go_wp2_with fail
 go_fit ht
 rintro e w1 ⟨rfl,hb1⟩
 have HB1:Hid (Below w.heap.size w w1):=hb1
 clear ht hb1
 go_wp2_with fail
 have HO:Hid (CB (fun i=>F (gt zss i)) K' E' w1.heap.size m 0 w (w1.alloc (.cells ((hzs m).map Hdr.val).toArray 51))):=
  ⟨hzs m,heap_alloc_new w1 _,by simp[hzs],fun r hr=>absurd hr (Nat.not_lt_zero r),HB1.out.alloc HB1.out.size _,HB1.out.size⟩
 have HG1:Hid (w.heap.size≤w1.heap.size):=HB1.out.size
 generalize w1.alloc (.cells ((hzs m).map Hdr.val).toArray 51)=W1 at *
 generalize w1.heap.size=g at *
 clear hmk HB1
 go_loopw [15] (fun kv wr=>∃i:Nat,i≤m∧kv=.int .i64 i∧Hid (CB (fun i=>F (gt zss i)) K' E' g m i w wr)) (fun kv _=>m-(intOf kv).toNat)
 case atStart=>exact⟨0,Nat.zero_le _,by go_num,HO.out⟩
 case round=>
  obtain⟨i,hi,rfl,G⟩:=hrel
  rcases Nat.lt_or_ge i m with hlt|hge
  ·obtain⟨os,g1,g2,g3,g4,g5⟩:=G.out
   have i1:(i:Int)<(m:Int):=by omega
   obtain⟨b,o,hp,hc⟩:=HX.out.1.hl (by rw[HX.out.1.el];show 0<m;omega)
   simp only at hp
   subst hp
   have c0:=hc i (by rw[HX.out.1.el];exact hlt)
   have c1:wr.cell? ⟨b,o+i,none⟩=some (gh (hs.take m) i).val:=by rw[g4.cell (block_lt_of_cell c0)];exact c0
   have hE2:=(fO K E).below (HX.out.1.ev i hlt) HX.out.2 g4
   rw[pC _ _ _ hlt] at hE2
   generalize gh (hs.take m) i=hd at c1 hE2
   obtain⟨p2,n2,nc2⟩:=hd
   have hcall:=HJ.out wr i ⟨p2,n2,nc2⟩ hlt g4 hE2
   simp only[Hdr.val] at c1 hcall
   have hg1:=g1
   have hlg:=g1.lt
   clear hc c0 hE2 g1 g3
   go_wp2_with fail
   go_fit hcall
   rintro e v3 ⟨p8,n8,es8,rfl,hN8,hb3⟩
   have z0:=(hg1.below hb3 hlg).cell i (by omega)
   have f0:=(hg1.below hb3 hlg).frozen i
   have hle:n8≤E':=by have h1:=HF.out i hlt;rw[hN8.zl] at h1;exact h1
   have hstep:=G.out.step hlt hb3 (hN8.mono hlg) hle
   have HST:=(show Hid _ from hstep)
   clear hstep hN8 hb3 hcall c1
   go_wp2
   go_roundw
   case rel=>exact⟨i+1,by omega,by go_num,HST.out⟩
   case measure=>simp[intOf];omega
  ·obtain rfl:i=m:=by omega
   have i1:¬(i:Int)<(i:Int):=by omega
   obtain⟨os,hN⟩:=G.out.no
   have HBW:Hid (Below w.heap.size w wr):=by obtain⟨_,_,_,_,h4,_⟩:=G.out;exact h4
   have ht2:=lJ (hN.hr hK' hE' (by omega)) (Nat.le_refl _) (by omega) hE'
   have HN:Hid (NO g wr K' E' ((List.range i).map fun i=>F (gt zss i)) (some ⟨g,0,none⟩) i os):=hN
   simp only at ht2
   clear hN G
   go_wp2_with fail
   go_fit ht2
   rintro e w3 ⟨rfl,hb3⟩
   have hle:=ee ((List.range i).map fun i=>F (gt zss i))
   rw[List.length_map,List.length_range] at hle
   have HR':Hid (OpP ((List.range i).map fun i=>F (gt zss i)) K' E' w (.returned (.slice (some ⟨g,0,none⟩) (aD ((List.range i).map fun i=>F (gt zss i))) (aD ((List.range i).map fun i=>F (gt zss i))))) w3):=
    ⟨some ⟨g,0,none⟩,os.take _,rfl,((HN.out.below hb3).cut hle).mono HG1.out,ae HBW.out hb3⟩
   clear hb3 ht2 hle
   generalize aD ((List.range i).map fun i=>F (gt zss i))=q at *
   go_wp2
   go_ret
   exact HR'.out
theorem zM(args:Array Value)(w':World):Sem.run Tryz.prog (callFunc 53 args) w'=.ok (.enter 53 args) w':=by
 have h1:¬Tryz.f53.name = "runtime.NumGoroutine" := of_decide_eq_false (by kernel_rfl)
 have h2:¬Tryz.f53.body=none:=fun h=>by cases h
 simp only[callFunc,Tryz.func53,go_sem]
 simp[h1,h2,go_sem]
theorem yF{w:World}{B T K E D:Nat}{zss:List (List Int)}{h:Hdr}(H:HR D (EZ K E) w B T zss h)(hT:T≤w.heap.size)(hD:D≤1000)(hE:E≤1000000)(hK:K≤1000):
  Calls Tryz.prog 40 #[.slice h.p h.n h.c] w (OpP ((List.range (aD zss)).map fun i=>tr (gt zss i)) K E w):=by
 have hlen:∀i,(gt zss i).length≤E:=fun i=>by
  obtain⟨rs,hr⟩:=H
  rcases Nat.lt_or_ge i zss.length with hk|hk
  ·obtain⟨fs,hP,hd,-⟩:=hr.ev i (by rw[←hr.tl];exact hk)
   rw[hP.zl]
   exact hd
  ·rw[dM _ _ hk]
   exact Nat.zero_le _
 have hc:=tU (K':=K) (E':=E) H hT hD hE hK hE 53 #[] zM tr (fun wq i hd hi hb he=>by
  obtain⟨fs,hP,hd3,-⟩:=he
  exact zq K hd.p hd.n hd.c fs (gt zss i) wq hP (by omega) hK) (fun i hi=>by rw[au];exact Nat.le_trans (ao _) (hlen i))
 clear hlen
 obtain⟨p,n,nc⟩:=h
 simp only at hc ⊢
 go_enter Tryz.func40,Tryz.ntmps40
 go_wp2_with fail
 go_fit hc
 rintro e w1 ⟨q,hs,rfl,h1,h2⟩
 have HR':Hid (OpP ((List.range (aD zss)).map fun i=>tr (gt zss i)) K E w (.returned (.slice q (aD ((List.range (aD zss)).map fun i=>tr (gt zss i))) (aD ((List.range (aD zss)).map fun i=>tr (gt zss i))))) w1):=⟨q,hs,rfl,h1,h2⟩
 clear hc h1 h2
 generalize aD ((List.range (aD zss)).map fun i=>tr (gt zss i))=m at *
 go_wp2
 go_ret
 exact HR'.out
theorem yo:(Tryz.prog.info? 54).map (fun i=>(i.zero,i.size,i.bytes))=some (some (.slice none 0 0),1,24):=by kernel_rfl
def EY(N D:Nat)(w:World)(B T:Nat)(zs:List Int)(h:Hdr):Prop:=
 ∃fs,PR w N h.p h.n h.c fs zs∧h.c=h.n∧ad zs=h.n∧h.n≤D∧(∀a,h.p=some a→0<h.n→B≤a.block∧a.block<T)∧∀j,j<h.n→0<(ge fs j).n→∀a,(ge fs j).p=some a→B≤a.block∧a.block<T
theorem bJ(N D:Nat):gB (EY N D):=⟨fun {w w' B T z h row} he hT hg hr=>by
  obtain⟨fs,k,e1,e2,h1,h2,h3⟩:=he
  refine⟨fs,⟨k.el,k.zl,k.cap,k.bnd,fun hx=>(k.pl.same fun a ha hlt=>hg.block a.block hlt fun e=>?_) hx,fun j hj=>(fP N).grown (k.ev j hj) hg fun hn a ha e=>?_⟩,e1,e2,h1,h2,h3⟩
  ·have h4:=h2 a ha (by rw[←k.el];exact hx)
   have h5:=hr a.block e.symm
   omega
  ·have h4:=h3 j hj hn a ha
   have h5:=hr a.block e.symm
   omega,fun {w B T B' T' z h} he hB hT=>by
  obtain⟨fs,k,e1,e2,h1,h2,h3⟩:=he
  exact⟨fs,k,e1,e2,h1,fun a ha hn=>by have:=h2 a ha hn;omega,fun j hj hn a ha=>by have:=h3 j hj hn a ha;omega⟩⟩
theorem wF{N D:Nat}{w w':World}{q:Option Addr}{m:Nat}{fs:List Ent}{zs:List Int}(h:PR w' N q m m fs zs)(h1:az w.heap.size q)(ht:ad zs=m)(h2:∀j,j<m→0<(ge fs j).n→az w.heap.size (ge fs j).p)(hm:m≤D):EY N D w' w.heap.size w'.heap.size zs ⟨q,m,m⟩:=by
 refine⟨fs,h,rfl,ht,hm,fun a ha hn=>⟨h1 a ha,?_⟩,fun j hj hn a ha=>⟨h2 j hj hn a ha,(fP N).lt (h.ev j hj) hn a ha⟩⟩
 obtain⟨b,o,hp,hlt⟩:=h.pl.lt (by rw[h.el];exact hn)
 simp only at ha
 rw[hp] at ha
 cases ha
 exact hlt
theorem qZ{α β:Type}[Inhabited α](f:α→β)(l:List α)(j:Nat)(h:j<l.length):(l.take (j+1)).map f=(l.take j).map f++[f (gt l j)]:=by
 rw[List.take_succ_eq_append_getElem h,List.map_append]
 simp[gt,h]
theorem yb(N E:Nat)(w:World)(B T:Nat):EY N E w B T [] ⟨none,0,0⟩:=
 ⟨[],⟨rfl,rfl,Nat.le_refl _,Nat.zero_le _,PL.nil,fun j hj=>absurd hj (Nat.not_lt_zero j)⟩,rfl,rfl,Nat.zero_le _,nofun,fun j hj=>absurd hj (Nat.not_lt_zero j)⟩
theorem xe{w:World}{B T N E D:Nat}{zss:List (List Int)}{h:Hdr}(H:HR D (EY N E) w B T zss h)(hT:T≤w.heap.size)(hD:D≤1000000)(hE:E≤1000000):
  Calls Tryz.prog 69 #[.slice h.p h.n h.c] w fun e w'=>e=.returned (.slice h.p (aD zss) (aD zss))∧Below w.heap.size w w':=by
 obtain⟨hs,k⟩:=H
 have HX:Hid (fa D (EY N E) w B T zss h hs∧T≤w.heap.size):=⟨k,hT⟩
 have hn:h.n≤D:=k.few
 have hcap:h.n≤h.c:=k.cap
 have hbnd:h.c≤maxLen:=k.bnd
 have hpn:h.p=none→h.c=0:=k.pn
 have HL:Hid (zss.length=h.n):=k.tl
 obtain⟨p,n,nc⟩:=h
 simp only at hn hcap hbnd hpn HL ⊢
 have hbnd':=hbnd
 unfold maxLen at hbnd'
 clear k hT
 go_enter Tryz.func69,Tryz.ntmps69
 go_wp2
 go_loopw [3] (fun nv wr=>∃k:Nat,k≤n∧nv=.int .i64 k∧Hid ((∀j,k≤j→ad (gt zss j)=0)∧Below w.heap.size w wr)) (fun nv _=>(intOf nv).toNat)
 case atStart=>exact⟨n,Nat.le_refl _,by go_num,fun j hj=>by rw[dM _ _ (by have:=HL.out;omega)];rfl,Below.refl _ _⟩
 case round=>
  obtain⟨k,hk,rfl,H⟩:=hrel
  rcases Nat.eq_zero_or_pos k with h0|h0
  ·subst h0
   have HT:Hid (aD zss=0):=jS zss 0 (fun j _=>H.out.1 j (Nat.zero_le _)) (.inl rfl)
   rcases p with _|a
   ·obtain rfl:=hpn rfl
    go_wp2
    go_ret
    exact⟨by rw[HT.out];rfl,H.out.2⟩
   ·go_wp2
    go_ret
    exact⟨by rw[HT.out];rfl,H.out.2⟩
  ·obtain⟨i,rfl⟩:∃i,k=i+1:=⟨k-1,by omega⟩
   obtain⟨H1,H2⟩:=H.out
   have HH:Hid ((∀j,i+1≤j→ad (gt zss j)=0)∧Below w.heap.size w wr):=⟨H1,H2⟩
   obtain⟨b,o,hp,hc⟩:=HX.out.1.hl (by rw[HX.out.1.el];show 0<n;omega)
   simp only at hp
   subst hp
   have c0:=hc i (by rw[HX.out.1.el];show i<n;omega)
   have c1:wr.cell? ⟨b,o+i,none⟩=some (gh hs i).val:=by rw[H2.cell (block_lt_of_cell c0)];exact c0
   have hE2:Hid (ad (gt zss i)=(gh hs i).n):=by obtain⟨fs,-,-,h2,-⟩:=HX.out.1.ev i (by show i<n;omega);exact h2
   generalize gh hs i=hd at c1 hE2
   obtain⟨p2,n2,nc2⟩:=hd
   simp only[Hdr.val] at c1 hE2
   have v1:wrap64 ((i:Int)+1-1)=(i:Int):=by unfold wrap64;omega
   have hlt:(i:Int)<(n:Int):=by omega
   clear H H1 H2 hc c0
   rcases Nat.eq_zero_or_pos n2 with hz|hz
   ·subst hz
    go_wp2
    go_roundw
    case rel=>exact⟨i,by omega,by go_num,fun j hj=>by
     rcases Nat.lt_or_ge i j with h|h
     ·exact HH.out.1 j h
     ·have:j=i:=by omega
      subst this;exact hE2.out,HH.out.2⟩
    case measure=>simp[intOf]
   ·have HT:Hid (aD zss=i+1):=jS zss (i+1) HH.out.1 (.inr (by show ¬ad (gt zss i)=0;rw[hE2.out];omega))
    have d1:((n2:Int)==0)=false:=by rw[beq_eq_false_iff_ne];omega
    have d2:¬(n2:Int)=0:=by omega
    go_wp2
    go_ret
    exact⟨by rw[HT.out];rfl,HH.out.2⟩
theorem s8{w:World}{B T N E D:Nat}{zss:List (List Int)}{h:Hdr}(H:HR D (EY N E) w B T zss h)(i:Nat)(hD:D≤1000)(hi:i≤1000):
  Calls Tryz.prog 81 #[.slice h.p h.n h.c,.int .i64 i] w fun e w'=>∃hd,e=.returned (Hdr.val hd)∧EY N E w B T (gt zss i) hd∧w'=w:=by
 obtain⟨hs,k⟩:=H
 have HX:Hid (fa D (EY N E) w B T zss h hs):=k
 have hn:=k.few
 obtain⟨p,n,nc⟩:=h
 simp only at hn ⊢
 clear k
 have i0:¬(i:Int)<0:=by omega
 rcases Nat.lt_or_ge i n with hlt|hge
 ·obtain⟨b,o,hp,hc⟩:=HX.out.hl (by rw[HX.out.el];show 0<n;omega)
  simp only at hp
  subst hp
  have c0:=hc i (by rw[HX.out.el];exact hlt)
  have HE:Hid (EY N E w B T (gt zss i) (gh hs i)):=HX.out.ev i hlt
  have i1:(i:Int)<(n:Int):=by omega
  have i2:¬(n:Int)≤(i:Int):=by omega
  generalize gh hs i=hd at c0 HE
  obtain⟨p2,n2,nc2⟩:=hd
  simp only[Hdr.val] at c0
  clear hc
  go_enter Tryz.func81,Tryz.ntmps81
  go_wp2
  go_ret
  exact⟨⟨p2,n2,nc2⟩,rfl,HE.out,rfl⟩
 ·have HE:Hid (EY N E w B T (gt zss i) ⟨none,0,0⟩):=by
   rw[dM _ _ (by have:=HX.out.tl;simp only at this;omega)]
   exact yb N E w B T
  have i2:(n:Int)≤(i:Int):=by omega
  go_enter Tryz.func81,Tryz.ntmps81
  go_wp2
  go_ret
  exact⟨⟨none,0,0⟩,rfl,HE.out,rfl⟩
def OrP(D:Nat)(l:List (List Int))(N E:Nat)(w:World)(e:Ending)(w':World):Prop:=
 ∃p,e=.returned (.slice p (aD l) (aD l))∧HR D (EY N E) w' w.heap.size w'.heap.size (otr l) ⟨p,aD l,aD l⟩∧Below w.heap.size w w'
theorem A6{w wr w1:World}{D N E:Nat}{q:Option Addr}{cap:Nat}{hs:List Hdr}{l:List (List Int)}(h:fa D (EY N E) wr w.heap.size wr.heap.size l ⟨q,hs.length,cap⟩ hs)(hb:Below w.heap.size w wr)(hb1:Below wr.heap.size wr w1):
  OrP D l N E w (.returned (.slice q (aD l) (aD l))) w1:=by
 have hol:=ee l
 have htl:=h.tl
 refine⟨q,rfl,?_,ae hb hb1⟩
 have h1:=h.cut (aD l) (by simp only at htl ⊢;omega)
 have h2:HR D (EY N E) wr w.heap.size wr.heap.size (otr l) ⟨q,aD l,aD l⟩:=⟨_,h1⟩
 exact(bK (bJ N E)).wide ((bK (bJ N E)).below h2 (Nat.le_refl _) hb1) (Nat.le_refl _) hb1.size
end Go.Proofs.YtfnkomoickanfaaGreatDoor
