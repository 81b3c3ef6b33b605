/- Own. -/
import Derived.Test.YtfnkomoickanfaaGreatDoorRd
set_option linter.unusedVariables false
set_option linter.unusedSimpArgs false
set_option maxHeartbeats 8000000
set_option maxRecDepth 100000
namespace Go.Proofs.YtfnkomoickanfaaGreatDoor
open Go.RowKit
theorem PA.trim{w:World}{K:Nat}{p:Option Addr}{n nc:Nat}{es:List Ent}{zs:List Int}(h:PA w K p n nc es zs):PA w K p (ad zs) (ad zs) (es.take (ad zs)) (tr zs):=by
 have htl:=ao zs
 have hz:=h.zl
 have hc:=h.cap
 exact(h.take (ad zs) (by omega)).clip fun e=>by have:=h.pn e;omega
theorem BG(args:Array Value)(w':World):Sem.run Tryz.prog (callFunc 91 args) w'=.ok (.enter 91 args) w':=by
 have h1:¬Tryz.f91.name = "runtime.NumGoroutine" := of_decide_eq_false (by kernel_rfl)
 have h2:¬Tryz.f91.body=none:=fun h=>by cases h
 simp only[callFunc,Tryz.func91,go_sem]
 simp[h1,h2,go_sem]
theorem NV.D8{B:Nat}{w:World}{K:Nat}{z:Int}{e:Ent}{g o:Nat}{u v:Value}(h:NV B w K z e)(ho:0<e.n→Off g e.p):NV B ((w.setCell ⟨g,o,none⟩ u).setCell ⟨g,o+1,none⟩ v) K z e:=by
 obtain⟨xs,h1,h2⟩:=h
 refine⟨xs,⟨h1.len,fun hx=>?_,h1.u,h1.nrm,h1.sg,h1.pn,h1.v,h1.fr,(h1.fz.set _ _).set _ _⟩,h2⟩
 have:=ho (by rw[h1.len] at hx;exact hx)
 exact((h1.rd.ah ⟨g,o,none⟩ u this).ah ⟨g,o+1,none⟩ v this) hx
theorem zq(K:Nat)(p:Option Addr)(n nc:Nat)(es:List Ent)(zs:List Int)(w:World)(h:PA w K p n nc es zs)(hn:n≤1000000)(hK:K≤1000):
  Calls Tryz.prog 53 #[.slice p n nc] w (PnP (tr zs) K w):=by
 have htl:=ao zs
 have hzl:=h.zl
 go_enter Tryz.func53,Tryz.ntmps53
 go_wp2_with fail
 refine(qJ K p n nc es zs _ h hn).mono ?_
 rintro e w1 ⟨rfl,hb1⟩
 have h1:=(h.below hb1).trim
 have he:=zW K _ _ _ _ _ w1 h1 (by omega) 91 #[] BG (fun w z e=>NV w1.heap.size w K z e) id (fun _ _ _ _ h hb=>h.below hb) (fun _ _ _ _ _ _ _ h ho=>h.D8 ho) (fun w' z e hb hv=>(B_ hv hK).mono fun r w'' ⟨f,a,b,c⟩=>⟨f,a,b.mono hb.size,fun _=>.inr (by obtain⟨xs,k,-⟩:=b;exact k.fr),c⟩)
 go_wp2_with fail
 refine he.mono ?_
 rintro e w2 ⟨q,fs,rfl,k1,k2,k3,k4,hb2⟩
 clear he
 go_wp2
 go_ret
 have hs:=hb1.size
 exact⟨q,ad zs,fs,rfl,⟨k1,au zs,aZ zs,k2,fun a ha=>Nat.le_trans hs (k3 a ha),fun j hj=>(k4 j hj).mono hs⟩,ae hb1 hb2⟩
theorem A9(K:Nat)(p:Option Addr)(n nc:Nat)(es:List Ent)(zs:List Int)(w:World)(h:PA w K p n nc es zs)(hn:n≤1000000):
  Calls Tryz.prog 123 #[.slice p n nc] w fun e w'=>e=.returned (.int .i64 ((ad zs:Int)-1))∧Below w.heap.size w w':=by
 have htl:=ao zs
 have hzl:=h.zl
 have v:IntKind.i64.wrap ((ad zs:Int)-1)=(ad zs:Int)-1:=by rw[IntKind.wrap_i64];omega
 go_enter Tryz.func123,Tryz.ntmps123
 go_wp2_with fail
 refine(qJ K p n nc es zs _ h hn).mono ?_
 rintro e w1 ⟨rfl,hb1⟩
 go_wp2
 go_ret
 exact⟨rfl,hb1⟩
def zb(z:Int):Nat:=if z=0 then 0 else z.natAbs.log2+1
theorem oU(z:Int):IB (zb z) (z.natAbs:Int):=by
 unfold zb
 split
 ·rename_i h;subst h;exact⟨by decide,by decide,.inl rfl⟩
 ·rename_i h
  have h0:z.natAbs≠0:=by omega
  refine⟨by omega,?_,.inr ?_⟩
  ·have:=Nat.lt_log2_self (n:=z.natAbs)
   exact_mod_cast this
  ·have:=Nat.log2_self_le h0
   simp only[Nat.add_sub_cancel]
   exact_mod_cast this
def pb(zs:List Int):Nat:=zs.foldl (fun m z=>max m (zb z)) 0
theorem Cc(zs:List Int)(j:Nat)(h:j<zs.length):pb (zs.take (j+1))=max (pb (zs.take j)) (zb (gx zs j)):=by
 rw[bX zs j h,List.take_succ_eq_append_getElem h,pb,List.foldl_append]
 rfl
def zl(z:Int):Nat:=(zb z+31)/32
def sl(zs:List Int):Nat:=zs.foldl (fun m z=>m+zl z) 0
open Go.Shelf
def wd(zs ys:List Int):Nat:=(pb zs+pb ys+Lib.bitLen (min zs.length ys.length))/32+1
def pz(op:Int→Int→Int)(zs ys:List Int):List Int:=(List.range (max zs.length ys.length)).map fun i=>op (gx zs i) (gx ys i)
theorem iB(g o cap:Nat)(Z:List Int)(p q:Option Addr)(n nc m mc:Nat)(xs ys:List Int)(w:World)
  (hz:o+(n+m)≤Z.length) (hcap:cap≤1099511627776) (hn:n+m≤cap) (hR:Row w g 132 .u32 Z) (hZ:(Z.drop o).take (n+m)=aw (n+m)) (hx:xs.length=n) (hy:ys.length=m)
  (hX:Rd w p .u32 xs) (hXu:U32 xs) (hY:Rd w q .u32 ys) (hYu:U32 ys) (hoffx:0<n→Off g p) (hoffy:0<m→Off g q):
  Calls Tryz.prog 165 #[.slice (some ⟨g,o,none⟩) (n+m) cap,.slice p n nc,.slice q m mc] w fun e w'=>∃R,e=.returned (.tuple #[])∧R.length=n+m∧U32 R∧val R=val xs*val ys∧Row w' g 132 .u32 (mid Z o R)∧w.grownBy w' (some g):=by
 go_enter Tryz.func165,Tryz.ntmps165
 go_wp2
 go_loopw [15] (fun iv wr=>∃(i:Nat) (R:List Int),i≤m∧iv=.int .i64 i∧Hid (R.length=n+m∧U32 R∧val R=val xs*val (ys.take i)∧(∀j,n+i≤j→gx R j=0)∧Row wr g 132 .u32 (mid Z o R)∧w.grownBy wr (some g)))
  (fun iv _=>m-(intOf iv).toNat)
 case atStart=>exact⟨0,aw (n+m),Nat.zero_le _,rfl,aR _,gK _,by simp[val_zero,val],fun j _=>dN _ j,by rw[←hZ,ku Z o (n+m) hz];exact hR,cz _ _⟩
 case round=>
  obtain⟨i,R,hi,rfl,H⟩:=hrel
  by_cases hlt:i<m
  ·obtain⟨hl,hu,hv,h0,hr,hg⟩:=H.out
   obtain⟨b,off,rfl,hcell⟩:=(hY.ig hg (hoffy (by omega))) (by omega)
   have hcy:=hcell i (by omega)
   clear hl hu hv h0 hr hg hcell
   go_wp2
   go_loopw [8,29] (fun cv jv wr'=>∃(j:Nat) (c:Int) (T:List Int),j≤n∧jv=.int .i64 j∧cv=.int .u64 c∧0≤c∧c<4294967296∧Hid (T.length=n+m∧U32 T∧val T+pw (i+j)*c=val R+pw i*(gx ys i*val (xs.take j))∧(∀j,n+i≤j→gx T j=0)∧Row wr' g 132 .u32 (mid Z o T)∧w.grownBy wr' (some g)))
    (fun _ jv _=>n-(intOf jv).toNat)
   case atStart=>
    obtain⟨hl,hu,hv,h0,hr,hg⟩:=H.out
    exact⟨0,0,R,Nat.zero_le _,rfl,rfl,by decide,by decide,hl,hu,by simp[val],h0,hr,hg⟩
   case round=>
    obtain⟨j,c,T,hj,rfl,rfl,hc0,hc1,HT⟩:=hrel
    by_cases hjn:j<n
    ·obtain⟨hl,hu,hv,h0,hr,hg⟩:=HT.out
     obtain⟨b',off',rfl,hcell⟩:=(hX.ig hg (hoffx (by omega))) (by omega)
     have hcx:=hcell j (by omega)
     have hct:=hr.fR (by omega) (i+j) (by omega)
     have hfz:=hr.frozen (o+(i+j))
     obtain⟨bt0,bt1⟩:=hu (i+j)
     obtain⟨bm0,bm1⟩:=sI (hYu i) (hXu j)
     obtain⟨by0,by1⟩:=hYu i
     obtain⟨bx0,bx1⟩:=hXu j
     rw[←Nat.add_assoc] at hct hfz
     clear hl hu hv h0 hr hg hcell
     go_wp2
     obtain⟨hl,hu,hv,h0,hr,hg⟩:=HT.out
     refine⟨⟨j+1,_,T.set (i+j) ((gx ys i*gx xs j+gx T (i+j)+c)%4294967296),by omega,by go_num,rfl,by omega,by omega,?_⟩,by simp[intOf];omega⟩
     refine⟨by rw[List.length_set];exact hl,cH hu _ (by omega),?_,fun k hk=>?_,?_,?_⟩
     ·rw[eZ T _ _ (by omega),ax xs j (by omega),←Nat.add_assoc,aP]
      have e:=fF (pw (i+j)) (gx ys i*gx xs j+gx T (i+j)+c)
      have e2:pw i*(gx ys i*(val (List.take j xs)+pw j*gx xs j))=pw i*(gx ys i*val (List.take j xs))+pw (i+j)*(gx ys i*gx xs j):=by
       rw[gI,Int.mul_add,Int.mul_add]
       congr 1
       simp only[Int.mul_assoc,Int.mul_left_comm]
      rw[e2]
      simp only[Int.mul_add,Int.mul_sub] at e ⊢
      omega
     ·rw[bI T _ _ _ (by omega)];exact h0 k hk
     ·rw[Nat.add_assoc];exact hr.dn (by omega) (i+j) (by omega) _
     ·exact aF hg _ _
    ·have hjn':j=n:=by omega
     subst hjn'
     obtain⟨hl,hu,hv,h0,hr,hg⟩:=HT.out
     have hct:=hr.fR (by omega) (i+j) (by omega)
     have hfz:=hr.frozen (o+(i+j))
     clear hl hu hv h0 hr hg
     go_wp2
     obtain⟨hl,hu,hv,h0,hr,hg⟩:=HT.out
     obtain⟨rl,ru,rv,r0,rr,rg⟩:=H.out
     refine⟨⟨i+1,T.set (i+j) c,by omega,by go_num,?_⟩,by simp[intOf];omega⟩
     refine⟨by rw[List.length_set];exact hl,cH hu _ ⟨hc0,hc1⟩,?_,fun k hk=>?_,hr.dn (by omega) (i+j) (by omega) _,aF hg _ _⟩
     ·rw[eZ T _ _ (by omega),h0 (i+j) (by omega),Int.sub_zero,hv,rv,List.take_of_length_le (l:=xs) (by omega),ax ys i (by omega)]
      rw[Int.mul_add]
      congr 1
      simp only[Int.mul_assoc,Int.mul_left_comm,Int.mul_comm]
     ·rw[bI T _ _ _ (by omega)];exact h0 k (by omega)
  ·have him:i=m:=by omega
   subst him
   go_wp2
   go_end0
   obtain⟨hl,hu,hv,h0,hr,hg⟩:=H.out
   rw[List.take_of_length_le (by omega)] at hv
   exact⟨R,rfl,hl,hu,hv,hr,hg⟩
theorem pJ(g o cap:Nat)(Z:List Int)(p q:Option Addr)(n nc m mc:Nat)(xs ys:List Int)(w:World)
  (hz:o+(n+m)≤Z.length) (hcap:cap≤1099511627776) (hn:n+m≤cap) (hR:Row w g 132 .u32 Z) (hZ:(Z.drop o).take (n+m)=aw (n+m)) (hx:xs.length=n) (hy:ys.length=m)
  (hX:Rd w p .u32 xs) (hXu:U32 xs) (hY:Rd w q .u32 ys) (hYu:U32 ys) (hoffx:0<n→Off g p) (hoffy:0<m→Off g q) (h80:n<80∨m<80):
  Calls Tryz.prog 148 #[.slice (some ⟨g,o,none⟩) (n+m) cap,.slice p n nc,.slice q m mc] w fun e w'=>∃R,e=.returned (.tuple #[])∧R.length=n+m∧U32 R∧val R=val xs*val ys∧Row w' g 132 .u32 (mid Z o R)∧w.grownBy w' (some g):=by
 by_cases hlt:n<m
 ·have h1:(n:Int)<m:=by omega
  have h2:(n:Int)<80:=by omega
  go_enter Tryz.func148,Tryz.ntmps148
  go_wp2_with fail
  have hmr:=iB g o cap Z q p m mc n nc ys xs w (by omega) hcap (by omega) hR (by rw[Nat.add_comm m n];exact hZ) hy hx hY hYu hX hXu hoffy hoffx
  rw[Nat.add_comm m n] at hmr
  refine hmr.mono ?_
  rintro e w' ⟨R,rfl,r1,r2,r3,r4,r5⟩
  go_wp2
  go_end0
  exact⟨R,rfl,r1,r2,by rw[r3,Int.mul_comm],r4,r5⟩
 ·have h1:¬(n:Int)<m:=by omega
  have h2:(m:Int)<80:=by omega
  go_enter Tryz.func148,Tryz.ntmps148
  go_wp2_with fail
  refine(iB g o cap Z p q n nc m mc xs ys w hz hcap hn hR hZ hx hy hX hXu hY hYu hoffx hoffy).mono ?_
  rintro e w' ⟨R,rfl,r1,r2,r3,r4,r5⟩
  go_wp2
  go_end0
  exact⟨R,rfl,r1,r2,r3,r4,r5⟩
theorem qS(p q:Option Addr)(n nc m mc:Nat)(xs ys:List Int)(w:World)(hn:n≤100000000)(hm:m≤100000000)(hx:xs.length=n)(hy:ys.length=m)
  (hX:Rd w p .u32 xs) (hXu:U32 xs) (hY:Rd w q .u32 ys) (hYu:U32 ys) (h80:n<80∨m<80):
  Calls Tryz.prog 110 #[.slice p n nc,.slice q m mc] w fun e w'=>∃R,e=.returned (.slice (some ⟨w.heap.size,0,none⟩) (n+m) (n+m))∧R.length=n+m∧U32 R∧val R=val xs*val ys∧Row w' w.heap.size 132 .u32 R∧Below w.heap.size w w':=by
 have hmk:=jP (n+m) (by omega)
 have ec:((n+m:Nat):Int)=(n:Int)+(m:Int):=by omega
 rw[ec] at hmk
 clear ec
 go_enter Tryz.func110,Tryz.ntmps110
 go_wp2_with fail
 refine(pJ w.heap.size 0 (n+m) (aw (n+m)) p q n nc m mc xs ys _ (by rw[aR];omega) (by omega) (Nat.le_refl _) (Row.new w _ _ _) (by rw[List.drop_zero,List.take_of_length_le (by rw[aR];omega)]) hx hy (hX.alloc _) hXu (hY.alloc _) hYu (fun h=>hX.off (Nat.le_refl _) (by omega)) (fun h=>hY.off (Nat.le_refl _) (by omega)) h80).mono ?_
 rintro e w' ⟨R,rfl,r1,r2,r3,r4,r5⟩
 go_wp2
 go_ret
 rw[Aq _ _ (by rw[r1,aR])] at r4
 exact⟨R,rfl,r1,r2,r3,r4,dz ((Below.refl _ _).alloc (Nat.le_refl _) _) r5 (by simp) (Nat.le_refl _)⟩
theorem Ak(s t:Bool)(xs ys zs:List Int)(h:val zs=val xs*val ys):ak (s != t) zs=ak s xs*ak t ys:=by
 cases s<;>cases t<;>simp[ak,h,Int.neg_mul,Int.mul_neg]
theorem xJ(s t:Bool)(p q:Option Addr)(n nc m mc:Nat)(xs ys:List Int)(w:World)(hA:AI w p n nc xs)(hB:AI w q m mc ys)(h80:n<80∨m<80):
  Calls Tryz.prog 66 #[.agg #[.bool s,.slice p n nc],.agg #[.bool t,.slice q m mc]] w fun e w'=>∃s' p' n' zs,e=.returned (.agg #[.bool s',.slice p' n' n'])∧NI w.heap.size w' s' p' n' zs (ak s xs*ak t ys)∧n'≤n+m∧Below w.heap.size w w':=by
 have tx:=ao xs
 have ty:=ao ys
 have lx:=hA.len
 have ly:=hB.len
 have bx:=hA.sml
 have by':=hB.sml
 go_enter Tryz.func66,Tryz.ntmps66
 go_wp2
 have hX:=fD w (.bool s) (.slice p n nc) (.bool t) (.slice q m mc) (.bool false) (.slice none 0 0) 24 24 24
 generalize ((w.alloc (Obj.cells #[Value.bool s,Value.slice p n nc] 24)).alloc (Obj.cells #[Value.bool t,Value.slice q m mc] 24)).alloc (Obj.cells #[Value.bool false,Value.slice none 0 0] 24)=W at *
 have hA':=hA.below hX.below
 have hB':=hB.below hX.below
 have k0:=hX.ca0
 have k1:=hX.ca1
 have k2:=hX.cb0
 have k3:=hX.cb1
 go_region_held3 (fun w'=>w'.cell? ⟨w.heap.size,0,none⟩=some (.bool s)∧w'.cell? ⟨w.heap.size,1,none⟩=some (.slice p n nc)∧w'.cell? ⟨w.heap.size+1,0,none⟩=some (.bool t)∧w'.cell? ⟨w.heap.size+1,1,none⟩=some (.slice q m mc)) (first|(simp[go_sem, *];done)|exact bB (by assumption) (by assumption))
  (first
   |(go_at_call_of 106 (Value.slice p n nc);refine(aM p n nc xs _ hA.len hA.cap hA.bnd ?_).mono ?_;exact hA'.rd.drew;rintro e w' ⟨rfl,rfl⟩)
   |(go_at_call_of 106 (Value.slice q m mc);refine(aM q m mc ys _ hB.len hB.cap hB.bnd ?_).mono ?_;exact hB'.rd.drew;rintro e w' ⟨rfl,rfl⟩)
   |(go_at_call 110;refine(qS p q (ad xs) nc (ad ys) mc (tr xs) (tr ys) _ (by omega) (by omega) (au xs) (au ys) ?_ (cF hA.u) ?_ (cF hB.u) (by omega)).mono ?_;exact hA'.tr.rd.drew;exact hB'.tr.rd.drew;rintro e w1 ⟨zs,rfl,z1,z2,z3,z4,hb1⟩)
   |(go_at_call 104;refine(bH (s != t) (some ⟨W.heap.size,0,none⟩) (ad xs+ad ys) (ad xs+ad ys) zs _ z1 (Nat.le_refl _) (by unfold maxLen;omega) ?_).mono ?_;exact z4.aQ;rintro e w2 ⟨rfl,hb2⟩;obtain⟨c0,c1,f0,f1⟩:=bM ((aC hb1).trans (hb2.mono (aC hb1).size)) hX.cr0 hX.cr1 hX.fr0 hX.fr1))
 go_wp2
 have hsz:=hX.size
 have hend:=gQ (z:=ak s xs*ak t ys) (sg:=s != t) (u:=.bool (nsg (s != t) zs)) (v:=.slice (nad (some ⟨W.heap.size,0,none⟩) zs) (ad zs) (ad zs)) hX.below (r:=w.heap.size+1+1) (by omega) (by omega) z4 z2 (aC hb1) hb2 (by rw[aE,aE] at z3;exact Ak s t xs ys zs z3)
 refine bodyPost_ret (v:=.agg #[.bool (nsg (s != t) zs),.slice (nad (some ⟨W.heap.size,0,none⟩) zs) (ad zs) (ad zs)]) (by simp[results,Tryz.results66,go_sem,c0,c1]) rfl ⟨_,_,_,tr zs,rfl,hend.1,?_,hend.2⟩
 have:=ao zs
 omega
def ps(zs ys:List Int):Nat→Nat→Int
 |0,_=>0
 |i+1,t=>ps zs ys i t+(if i≤t then gx zs i*gx ys (t-i) else 0)
def pj(zs ys:List Int)(i j t:Nat):Int:=ps zs ys i t+(if i≤t∧t<i+j then gx zs i*gx ys (t-i) else 0)
theorem Cd(zs ys:List Int)(i t:Nat):pj zs ys i 0 t=ps zs ys i t:=by
 rw[pj,if_neg (by omega),Int.add_zero]
theorem Dp(zs ys:List Int)(i t:Nat):pj zs ys i ys.length t=ps zs ys (i+1) t:=by
 rw[pj,ps]
 by_cases h:i≤t
 ·rw[if_pos h]
  by_cases h2:t<i+ys.length
  ·rw[if_pos ⟨h,h2⟩]
  ·rw[if_neg (by omega),aJ ys ys.length (Nat.le_refl _) (t-i) (by omega),Int.mul_zero]
 ·rw[if_neg (by omega),if_neg h]
theorem sO(zs ys:List Int)(i j:Nat):pj zs ys i (j+1) (i+j)=pj zs ys i j (i+j)+gx zs i*gx ys j:=by
 rw[pj,pj,if_pos (by omega),if_neg (by omega),Int.add_zero,Nat.add_sub_cancel_left]
theorem qR(zs ys:List Int)(i j t:Nat)(h:t≠i+j):pj zs ys i (j+1) t=pj zs ys i j t:=by
 rw[pj,pj]
 by_cases h1:i≤t∧t<i+j
 ·rw[if_pos (by omega),if_pos h1]
 ·rw[if_neg (by omega),if_neg h1]
theorem Ce(zs ys:List Int)(i t:Nat)(h:gx zs i=0):ps zs ys (i+1) t=ps zs ys i t:=by
 rw[ps,h]
 split<;>simp
theorem vM{x y:Int}{K L:Nat}(hx:(x.natAbs:Int)<pw K)(hy:(y.natAbs:Int)<pw L):((x*y).natAbs:Int)≤pw (K+L):=by
 rw[Int.natAbs_mul,gI]
 push_cast
 exact Int.mul_le_mul (by omega) (by omega) (by omega) (by have:=aU K;omega)
theorem D1{zs ys:List Int}{K L:Nat}(hx:∀i,((gx zs i).natAbs:Int)<pw K)(hy:∀i,((gx ys i).natAbs:Int)<pw L)(i t:Nat):((ps zs ys i t).natAbs:Int)≤i*pw (K+L):=by
 induction i with
 |zero=>simp[ps]
 |succ i ih=>
  rw[ps]
  have h1:=vM (hx i) (hy (t-i))
  have h2:=aU (K+L)
  have e:((i+1:Nat):Int)*pw (K+L)=i*pw (K+L)+pw (K+L):=by push_cast;rw[Int.add_mul,Int.one_mul]
  rw[e]
  split<;>omega
theorem D0{zs ys:List Int}{K L:Nat}(hx:∀i,((gx zs i).natAbs:Int)<pw K)(hy:∀i,((gx ys i).natAbs:Int)<pw L)(i j t:Nat)(hi:i≤1000000):((pj zs ys i j t).natAbs:Int)<pw (K+L+1):=by
 have h1:=D1 hx hy i t
 have h2:=vM (hx i) (hy (t-i))
 have h3:=aU (K+L)
 have e:pw (K+L+1)=4294967296*pw (K+L):=aP _
 have h4:(i:Int)*pw (K+L)≤1000000*pw (K+L):=Int.mul_le_mul_of_nonneg_right (by omega) (by omega)
 rw[pj,e]
 split<;>omega
theorem CJ{w:World}{K L:Nat}{x y:Int}{e f:Ent}(h:EV w K x e)(k:EV w L y f)(hK:K<80):Calls Tryz.prog 66 #[.agg #[.bool e.s,.slice e.p e.n e.c],.agg #[.bool f.s,.slice f.p f.n f.c]] w fun r w'=>∃u:Ent,r=.returned (.agg #[.bool u.s,.slice u.p u.n u.c])∧NV w.heap.size w' (K+L) (x*y) u∧Below w.heap.size w w':=by
 obtain⟨xs,h1,rfl,h3⟩:=h
 obtain⟨ys,k1,rfl,k3⟩:=k
 refine(xJ e.s f.s e.p f.p e.n e.c f.n f.c xs ys w h1 k1 (.inl (by omega))).mono ?_
 rintro r w' ⟨s',p',n',zs,g1,g2,g3,g4⟩
 exact⟨⟨s',p',n',n'⟩,g1,⟨zs,g2,rfl,by show n'≤_;omega⟩,g4⟩
def evz(x:Int):List Int→Int
 | []=>0
 |c::cs=>evz x cs*x+c
theorem mZ(x:Int)(zs:List Int)(i:Nat)(h:i<zs.length):evz x (zs.drop i)=evz x (zs.drop (i+1))*x+gx zs i:=by
 rw[List.drop_eq_getElem_cons h,bX zs i h]
 rfl
theorem ya{x:Int}{K L:Nat}(hx:(x.natAbs:Int)<pw L):∀(zs:List Int),(∀j,((gx zs j).natAbs:Int)<pw K)→((evz x zs).natAbs:Int)<pw (K+zs.length*(L+1))
 | [],_=>by simpa [evz] using aU _
 |c::cs,h=>by
  have ih:=ya hx cs (fun j=>by simpa [gx] using h (j+1))
  have hc:((c).natAbs:Int)<pw K:=by simpa [gx] using h 0
  have hm:((evz x cs*x).natAbs:Int)≤pw (K+cs.length*(L+1)+L):=by
   rw[gI,Int.natAbs_mul]
   push_cast
   exact Int.mul_le_mul (Int.le_of_lt ih) (Int.le_of_lt hx) (by omega) (Int.le_of_lt (aU _))
  have h1:pw K≤pw (K+cs.length*(L+1)+L):=bD (by omega)
  have h2:K+(c::cs).length*(L+1)=K+cs.length*(L+1)+L+1:=by
   simp only[List.length_cons]
   rw[Nat.succ_mul]
   omega
  rw[h2,aP]
  show((evz x cs*x+c).natAbs:Int)<_
  have h3:=aU (K+cs.length*(L+1)+L)
  omega
end Go.Proofs.YtfnkomoickanfaaGreatDoor
