/- Own. -/
import Derived.Test.YtfnkomoickanfaaGreatDoorPl
set_option linter.unusedVariables false
set_option linter.unusedSimpArgs false
set_option maxHeartbeats 8000000
set_option maxRecDepth 100000
namespace Go.Proofs.YtfnkomoickanfaaGreatDoor
open Go.RowKit
theorem vK(xs ys new:List Int)(n m M:Nat)(c:Int)(hn:xs.length=n)(hm:ys.length=m)(h1:n<M)(h2:m<M)(hX:U32 xs)(hY:U32 ys)(hU:U32 new)(hl:new.length=M)(hc0:0≤c)(hc1:c≤1)
  (h:val new+pw M*c=val xs+val ys):val new=val xs+val ys:=by
 rcases Int.lt_or_le 0 c with hc|hc
 ·have e:c=1:=by omega
  subst e
  have a1:=bU hX
  have a2:=bU hY
  have a3:=aA hU
  have a4:pw xs.length≤pw (M-1):=bD (by omega)
  have a5:pw ys.length≤pw (M-1):=bD (by omega)
  have a6:=aP (M-1)
  rw[show M-1+1=M by omega] at a6
  have a7:=aU (M-1)
  omega
 ·have e:c=0:=by omega
  subst e
  omega
theorem vJ(p q:Option Addr)(n nc m mc:Nat)(xs ys:List Int)(w:World)(hn:xs.length=n)(hm:ys.length=m)(hnb:n≤1000000000)(hmb:m≤1000000000)
  (hX:Rd w p .u32 xs) (hXu:U32 xs) (hY:Rd w q .u32 ys) (hYu:U32 ys):
  Calls Tryz.prog 108 #[.slice p n nc,.slice q m mc] w fun e w'=>∃M zs,e=.returned (.slice (some ⟨w.heap.size,0,none⟩) M M)∧n<M∧m<M∧M≤n+m+1∧zs.length=M∧U32 zs∧val zs=val xs+val ys∧
   Row w' w.heap.size 132 .u32 zs∧Below w.heap.size w w':=by
 by_cases hlt:n<m
 ·have hl':(n:Int)<m:=by omega
  have hmk:=jP (m+1) (by omega)
  have ec:((m+1:Nat):Int)=(m:Int)+1:=by omega
  rw[ec] at hmk
  clear ec
  have hcp:=fun ty=>mV ty w p n nc (m+1) xs hX hn (by omega)
  have hlen:(xs++aw (m+1-n)).length=m+1:=by simp[aw];omega
  go_enter Tryz.func108,Tryz.ntmps108
  go_wp2_with fail
  refine(kX w.heap.size 0 (m+1) (m+1) (xs++aw (m+1-n)) q m mc ys _ (by omega) (by omega) (Nat.le_refl _) (Row.new w _ _ _) (bh hXu (gK _)) hm (by omega) (hY.alloc _) hYu (fun h=>hY.off (Nat.le_refl _) (by omega))).mono ?_
  rintro e w' ⟨c,new,rfl,h1,h2,h3,h4,h5,h6,h7⟩
  go_wp2
  go_ret
  have hs:=vK xs ys new n m (m+1) c hn hm (by omega) (by omega) hXu hYu h2 h1 h3 h4 (by
   rw[h5,List.drop_zero,List.take_of_length_le (by omega),bj,val_zero,Int.mul_zero,Int.add_zero])
  refine⟨m+1,new,rfl,by omega,by omega,by omega,h1,h2,hs,?_,?_⟩
  ·rw[List.take_zero,List.nil_append,Nat.zero_add,List.drop_of_length_le (by omega),List.append_nil] at h6
   exact h6
  ·exact dz ((Below.refl _ _).alloc (Nat.le_refl _) _) h7 (by simp) (Nat.le_refl _)
 ·have hl':¬(n:Int)<m:=by omega
  have hmk:=jP (n+1) (by omega)
  have ec:((n+1:Nat):Int)=(n:Int)+1:=by omega
  rw[ec] at hmk
  clear ec
  have hcp:=fun ty=>mV ty w p n nc (n+1) xs hX hn (by omega)
  have hlen:(xs++aw 1).length=n+1:=by simp[aw];omega
  go_enter Tryz.func108,Tryz.ntmps108
  go_wp2_with fail
  refine(kX w.heap.size 0 (n+1) (n+1) (xs++aw 1) q m mc ys _ (by omega) (by omega) (Nat.le_refl _) (Row.new w _ _ _) (bh hXu (gK _)) hm (by omega) (hY.alloc _) hYu (fun h=>hY.off (Nat.le_refl _) (by omega))).mono ?_
  rintro e w' ⟨c,new,rfl,h1,h2,h3,h4,h5,h6,h7⟩
  go_wp2
  go_ret
  have hs:=vK xs ys new n m (n+1) c hn hm (by omega) (by omega) hXu hYu h2 h1 h3 h4 (by
   rw[h5,List.drop_zero,List.take_of_length_le (by omega),bj,val_zero,Int.mul_zero,Int.add_zero])
  refine⟨n+1,new,rfl,by omega,by omega,by omega,h1,h2,hs,?_,?_⟩
  ·rw[List.take_zero,List.nil_append,Nat.zero_add,List.drop_of_length_le (by omega),List.append_nil] at h6
   exact h6
  ·exact dz ((Below.refl _ _).alloc (Nat.le_refl _) _) h7 (by simp) (Nat.le_refl _)
theorem fG(p q:Option Addr)(n nc m mc:Nat)(xs ys:List Int)(w:World)(hn:xs.length=n)(hm:ys.length=m)(hmc:m≤mc)(hmc':mc≤maxLen)(hnb:n≤1000000000)
  (hX:Rd w p .u32 xs) (hXu:U32 xs) (hY:Rd w q .u32 ys) (hYu:U32 ys) (hle:val ys≤val xs):
  Calls Tryz.prog 109 #[.slice p n nc,.slice q m mc] w fun e w'=>∃zs,e=.returned (.slice (some ⟨w.heap.size,0,none⟩) n n)∧zs.length=n∧U32 zs∧val zs=val xs-val ys∧
   Row w' w.heap.size 132 .u32 zs∧Below w.heap.size w w':=by
 have ht:ad ys≤n:=by
  rcases Nat.lt_or_ge n (ad ys) with h|h
  ·have h1:=kP hXu hYu (Nat.lt_of_le_of_lt (hn ▸ ao xs) h)
   omega
  ·exact h
 go_enter Tryz.func109,Tryz.ntmps109
 go_wp2_with fail
 refine(eO p n nc xs _ hn (by omega) hX).mono ?_
 rintro e w' ⟨rfl,rfl⟩
 go_wp2_with fail
 refine(aM q m mc ys _ hm hmc hmc' (hY.alloc _)).mono ?_
 rintro e w' ⟨rfl,rfl⟩
 go_wp2_with fail
 refine(tJ w.heap.size 0 n n xs q (ad ys) mc (tr ys) _ (by omega) (by omega) (Nat.le_refl _) (Row.new w _ _ _) hXu (au ys) ht (hY.tr.alloc _) (cF hYu) (fun h=>hY.tr.off (Nat.le_refl _) (by rw[au];exact h))).mono ?_
 rintro e w' ⟨c,new,rfl,h1,h2,h3,h4,h5,h6,h7⟩
 go_wp2
 go_ret
 rw[List.drop_zero,List.take_of_length_le (by omega),aE] at h5
 have hc:c=0:=by
  rcases Int.lt_or_le 0 c with hc|hc
  ·have e:c=1:=by omega
   subst e
   have hv:=bU h2
   rw[h1] at hv
   omega
  ·omega
 subst hc
 refine⟨new,rfl,h1,h2,by simp only[Int.mul_zero] at h5;omega,?_,?_⟩
 ·rw[List.take_zero,List.nil_append,Nat.zero_add,List.drop_of_length_le (by omega),List.append_nil] at h6
  exact h6
 ·exact dz ((Below.refl _ _).alloc (Nat.le_refl _) _) h7 (by simp) (Nat.le_refl _)
theorem o7(a b:Int)(w:World):Calls Tryz.prog 151 #[.int .i64 a,.int .i64 b] w fun e w'=>e=.returned (.int .i64 (a_ a b))∧w=w':=by
 rcases Int.lt_trichotomy a b with h|h|h
 ·rw[bC h]
  go_enter Tryz.func151,Tryz.ntmps151
  go_wp2
  go_ret
  exact⟨rfl,rfl⟩
 ·subst h
  rw[c5]
  go_enter Tryz.func151,Tryz.ntmps151
  go_wp2
  go_ret
  exact⟨rfl,rfl⟩
 ·rw[cr h]
  have h':¬a<b:=by omega
  go_enter Tryz.func151,Tryz.ntmps151
  go_wp2
  go_ret
  exact⟨rfl,rfl⟩
theorem iT(a b:Int)(w:World):Calls Tryz.prog 152 #[.int .u32 a,.int .u32 b] w fun e w'=>e=.returned (.int .i64 (a_ a b))∧w=w':=by
 rcases Int.lt_trichotomy a b with h|h|h
 ·rw[bC h]
  go_enter Tryz.func152,Tryz.ntmps152
  go_wp2
  go_ret
  exact⟨rfl,rfl⟩
 ·subst h
  rw[c5]
  go_enter Tryz.func152,Tryz.ntmps152
  go_wp2
  go_ret
  exact⟨rfl,rfl⟩
 ·rw[cr h]
  have h':¬a<b:=by omega
  go_enter Tryz.func152,Tryz.ntmps152
  go_wp2
  go_ret
  exact⟨rfl,rfl⟩
theorem eV{k:IntKind}{a b:Int}(h:a=b):Ending.returned (.int k a)=.returned (.int k b):=by rw[h]
theorem cM{P:Program}{f:FuncId}{args:Array Value}{w:World}{v:Value}(h:Calls P f args w fun e w'=>e=.returned v∧w=w'):
  Calls P f args w fun e w'=>e=.returned v∧w'=w:=h.mono fun _ _ ⟨a,b⟩=>⟨a,b.symm⟩
theorem dA(p q:Option Addr)(n nc m mc:Nat)(xs ys:List Int)(w:World)(hn:xs.length=n)(hm:ys.length=m)(hnc:n≤nc)(hnc':nc≤maxLen)(hmc:m≤mc)(hmc':mc≤maxLen)
  (hX:Rd w p .u32 xs) (hXu:U32 xs) (hY:Rd w q .u32 ys) (hYu:U32 ys):
  Calls Tryz.prog 119 #[.slice p n nc,.slice q m mc] w fun e w'=>e=.returned (.int .i64 (a_ (val xs) (val ys)))∧Below w.heap.size w w':=by
 have tx:=ao xs
 have ty:=ao ys
 have hnc2:=hnc'
 have hmc2:=hmc'
 unfold maxLen at hnc2 hmc2
 by_cases hne:ad xs=ad ys
 ·have hb:(((ad xs:Nat):Int) != ((ad ys:Nat):Int))=false:=by simp[hne]
  go_enter Tryz.func119,Tryz.ntmps119
  go_wp2_with fail
  refine(aM p n nc xs _ hn hnc hnc' hX).mono ?_
  rintro e w' ⟨rfl,rfl⟩
  go_wp2_with fail
  refine(aM q m mc ys _ hm hmc hmc' hY).mono ?_
  rintro e w' ⟨rfl,rfl⟩
  have H1:Hid (ad xs=ad ys):=hne
  clear hne
  go_wp2_with fail
  go_loopw [5] (fun iv wr=>∃k:Nat,k≤ad ys∧iv=.int .i64 ((k:Int)-1)∧Hid ((tr xs).drop k=(tr ys).drop k∧Below w.heap.size w wr)) (fun iv _=>(intOf iv+1).toNat)
  case atStart=>
   refine⟨ad ys,Nat.le_refl _,by go_num,?_,Below.refl _ _⟩
   rw[List.drop_of_length_le (by rw[au];have:=H1.out;omega),List.drop_of_length_le (by rw[au];omega)]
  case round=>
   obtain⟨k,hk,rfl,H⟩:=hrel
   by_cases h0:k=0
   ·subst h0
    go_wp2
    go_ret
    obtain⟨hd,hb⟩:=H.out
    rw[List.drop_zero,List.drop_zero] at hd
    rw[←aE xs,hd,aE,c5]
    exact⟨rfl,hb⟩
   ·obtain⟨j,rfl⟩:∃j,k=j+1:=⟨k-1,by omega⟩
    have ej:((j+1:Nat):Int)-1=(j:Int):=by omega
    rw[ej]
    clear ej
    obtain⟨hd,hb⟩:=H.out
    have hl:=H1.out
    obtain⟨b1,o1,rfl,hc1⟩:=(hX.tr.below hb) (by rw[au];omega)
    obtain⟨b2,o2,rfl,hc2⟩:=(hY.tr.below hb) (by rw[au];omega)
    have g1:=hc1 j (by rw[au];omega)
    have g2:=hc2 j (by rw[au];omega)
    clear hc1 hc2 hd hb hl
    rcases Int.lt_trichotomy (gx (tr xs) j) (gx (tr ys) j) with hc|hc|hc
    ·have hq:(gx (tr xs) j != gx (tr ys) j)=true:=by rw[bne_iff_ne];omega
     go_wp2
     go_quiet (fail)
     have hB:=below_drewN H.out.2 nq
     have e1:(wr.drewN nq).cell? ⟨b1,o1+j,none⟩=some (.int .u32 (gx (tr xs) j)):=g1
     have e2:(wr.drewN nq).cell? ⟨b2,o2+j,none⟩=some (.int .u32 (gx (tr ys) j)):=g2
     generalize wr.drewN nq=wq at *
     go_wp2
     go_big_quiet ((go_at_call 152;exact Calls.quiet_of_same (cM (iT _ _ _))))
     go_wp2
     go_ret
     obtain⟨hd,hb⟩:=H.out
     have hl:=H1.out
     have hv:=qK (cF hXu) (cF hYu) j (by rw[au];omega) (by rw[au];omega) hd hc
     rw[aE,aE] at hv
     rw[bC hv]
     exact⟨eV (bC hc),below_drewN hB _⟩
    ·have hq:(gx (tr xs) j != gx (tr ys) j)=false:=by rw[hc];simp
     have HC:Hid (gx (tr xs) j=gx (tr ys) j):=hc
     clear hc
     go_wp2
     go_quiet (fail)
     go_wp2
     refine⟨⟨j,by omega,by go_num,?_,below_drewN H.out.2 _⟩,by simp[intOf]⟩
     exact qg j (by rw[au];have:=H1.out;omega) (by rw[au];omega) H.out.1 HC.out
    ·have hq:(gx (tr xs) j != gx (tr ys) j)=true:=by rw[bne_iff_ne];omega
     go_wp2
     go_quiet (fail)
     have hB:=below_drewN H.out.2 nq
     have e1:(wr.drewN nq).cell? ⟨b1,o1+j,none⟩=some (.int .u32 (gx (tr xs) j)):=g1
     have e2:(wr.drewN nq).cell? ⟨b2,o2+j,none⟩=some (.int .u32 (gx (tr ys) j)):=g2
     generalize wr.drewN nq=wq at *
     go_wp2
     go_big_quiet ((go_at_call 152;exact Calls.quiet_of_same (cM (iT _ _ _))))
     go_wp2
     go_ret
     obtain⟨hd,hb⟩:=H.out
     have hl:=H1.out
     have hv:=qK (cF hYu) (cF hXu) j (by rw[au];omega) (by rw[au];omega) hd.symm hc
     rw[aE,aE] at hv
     rw[cr hv]
     exact⟨eV (cr hc),below_drewN hB _⟩
 ·have hb:(((ad xs:Nat):Int) != ((ad ys:Nat):Int))=true:=by rw[bne_iff_ne];omega
  go_enter Tryz.func119,Tryz.ntmps119
  go_wp2_with fail
  refine(aM p n nc xs _ hn hnc hnc' hX).mono ?_
  rintro e w' ⟨rfl,rfl⟩
  go_wp2_with fail
  refine(aM q m mc ys _ hm hmc hmc' hY).mono ?_
  rintro e w' ⟨rfl,rfl⟩
  go_wp2_with fail
  refine(o7 _ _ _).mono ?_
  rintro e w' ⟨rfl,rfl⟩
  go_wp2
  go_ret
  refine⟨eV ?_,Below.refl _ _⟩
  rcases Nat.lt_or_gt_of_ne hne with h|h
  ·rw[bC (kP hXu hYu h),bC (by omega)]
  ·rw[cr (kP hYu hXu h),cr (by omega)]
def ak(s:Bool)(xs:List Int):Int:=if s then-val xs else val xs
structure AI(w:World)(p:Option Addr)(n nc:Nat)(xs:List Int):Prop where
 len:xs.length=n
 cap:n≤nc
 bnd:nc≤maxLen
 sml:n≤100000000
 rd:Rd w p .u32 xs
 u:U32 xs
structure NI(B:Nat)(w:World)(s:Bool)(p:Option Addr)(n:Nat)(xs:List Int)(z:Int):Prop where
 len:xs.length=n
 rd:Rd w p .u32 xs
 u:U32 xs
 nrm:ad xs=n
 sg:n=0→s=false
 pn:n=0→p=none
 v:ak s xs=z
 fr:az B p
 fz:Fz w p
theorem AI.below{w w':World}{p:Option Addr}{n nc:Nat}{xs:List Int}(h:AI w p n nc xs)(hb:Below w.heap.size w w'):AI w' p n nc xs:=⟨h.len,h.cap,h.bnd,h.sml,h.rd.below hb,h.u⟩
theorem AI.alloc{w:World}{p:Option Addr}{n nc:Nat}{xs:List Int}(h:AI w p n nc xs)(o:Obj):AI (w.alloc o) p n nc xs:=⟨h.len,h.cap,h.bnd,h.sml,h.rd.alloc o,h.u⟩
theorem NI.below{B:Nat}{w w':World}{s:Bool}{p:Option Addr}{n:Nat}{xs:List Int}{z:Int}(h:NI B w s p n xs z)(hb:Below w.heap.size w w'):NI B w' s p n xs z:=
 ⟨h.len,h.rd.below hb,h.u,h.nrm,h.sg,h.pn,h.v,h.fr,h.fz.below hb⟩
theorem NI.mono{B B':Nat}{w:World}{s:Bool}{p:Option Addr}{n:Nat}{xs:List Int}{z:Int}(h:NI B w s p n xs z)(hB:B'≤B):NI B' w s p n xs z:=
 ⟨h.len,h.rd,h.u,h.nrm,h.sg,h.pn,h.v,fun a ha=>Nat.le_trans hB (h.fr a ha),h.fz⟩
theorem NI.ai{B:Nat}{w:World}{s:Bool}{p:Option Addr}{n:Nat}{xs:List Int}{z:Int}(h:NI B w s p n xs z)(hn:n≤100000000):AI w p n n xs:=
 ⟨h.len,Nat.le_refl _,by unfold maxLen;omega,hn,h.rd,h.u⟩
theorem uR(s:Bool)(xs:List Int):ak s (tr xs)=ak s xs:=by simp only[ak,aE]
theorem cA{B:Nat}{w:World}{q:Option Addr}{xs:List Int}(neg:Bool)(hX:Rd w q .u32 xs)(hU:U32 xs)(hf:az B q)(hz:Fz w q):NI B w (nsg neg xs) (nad q xs) (ad xs) (tr xs) (ak neg xs):=by
 refine⟨au xs,?_,cF hU,aZ xs,fun h=>by rw[nsg,if_pos h],fun h=>by rw[nad,if_pos h],?_,?_,?_⟩
 ·intro h
  rw[au] at h
  rw[nad,if_neg (by omega)]
  exact hX.tr (by rw[au];exact h)
 ·rw[uR,nsg]
  split
  ·rename_i h
   have:=(bO hU).1 h
   simp[ak,this]
  ·rfl
 ·rw[nad]
  split
  ·intro a ha;cases ha
  ·exact hf
 ·rw[nad]
  split
  ·exact Fz.nil _
  ·exact hz
theorem Row.lG(w:World)(a:Obj)(e:TypeId)(k:IntKind)(xs:List Int):Row ((w.alloc a).alloc (.cells (ca k xs) e)) (w.heap.size+1) e k xs:=by
 have:=Row.new (w.alloc a) e k xs
 rwa [World.size_alloc] at this
theorem Row.Aw(w:World)(a b:Obj)(e:TypeId)(k:IntKind)(xs:List Int):Row (((w.alloc a).alloc b).alloc (.cells (ca k xs) e)) (w.heap.size+1+1) e k xs:=by
 have:=Row.new ((w.alloc a).alloc b) e k xs
 rwa [World.size_alloc,World.size_alloc] at this
theorem Row.new3(w:World)(a b c:Obj)(e:TypeId)(k:IntKind)(xs:List Int):Row ((((w.alloc a).alloc b).alloc c).alloc (.cells (ca k xs) e)) (w.heap.size+1+1+1) e k xs:=by
 have:=Row.new (((w.alloc a).alloc b).alloc c) e k xs
 rwa [World.size_alloc,World.size_alloc,World.size_alloc] at this
theorem dO{w1 w2:World}{a b:Addr}{u v:Value}(h:w1.cell? a=some u∧w1.cell? b=some v)(hb:Below w1.heap.size w1 w2):w2.cell? a=some u∧w2.cell? b=some v:=
 ⟨cell_later hb h.1,cell_later hb h.2⟩
theorem bB{w1 w2:World}{a b c d:Addr}{u v x y:Value}(h:w1.cell? a=some u∧w1.cell? b=some v∧w1.cell? c=some x∧w1.cell? d=some y)(hb:Below w1.heap.size w1 w2):w2.cell? a=some u∧w2.cell? b=some v∧w2.cell? c=some x∧w2.cell? d=some y:=
 ⟨cell_later hb h.1,cell_later hb h.2.1,cell_later hb h.2.2.1,cell_later hb h.2.2.2⟩
theorem NI.set{B:Nat}{w:World}{s:Bool}{p:Option Addr}{n:Nat}{xs:List Int}{z:Int}(h:NI B w s p n xs z){a:Addr}(ha:a.block<B)(v:Value):NI B (w.setCell a v) s p n xs z:=
 ⟨h.len,h.rd.ah a v (fun b hb e=>by have:=h.fr b hb;omega),h.u,h.nrm,h.sg,h.pn,h.v,h.fr,h.fz.set a v⟩
theorem AI.drew{w:World}{p:Option Addr}{n nc:Nat}{xs:List Int}(h:AI w p n nc xs):AI w.drew p n nc xs:=⟨h.len,h.cap,h.bnd,h.sml,h.rd,h.u⟩
theorem AI.tr{w:World}{p:Option Addr}{n nc:Nat}{xs:List Int}(h:AI w p n nc xs):AI w p (ad xs) nc (tr xs):=
 ⟨au xs,by have:=ao xs;have:=h.len;have:=h.cap;omega,h.bnd,by have:=ao xs;have:=h.len;have:=h.sml;omega,h.rd.tr,cF h.u⟩
theorem aL{B b o:Nat}(h:B≤b):az B (some ⟨b,o,none⟩):=fun a ha=>by cases ha;exact h
theorem c9{B:Nat}:az B none:=fun a ha=>by cases ha
theorem bM{W w1:World}{r:Nat}{u v:Value}(hb:Below W.heap.size W w1)(h0:W.cell? ⟨r,0,none⟩=some u)(h1:W.cell? ⟨r,1,none⟩=some v)(f0:W.frozen? ⟨r,0,none⟩=false)(f1:W.frozen? ⟨r,1,none⟩=false):
  w1.cell? ⟨r,0,none⟩=some u∧w1.cell? ⟨r,1,none⟩=some v∧w1.frozen? ⟨r,0,none⟩=false∧w1.frozen? ⟨r,1,none⟩=false:=by
 have hr:r<W.heap.size:=block_lt_of_cell h0
 exact⟨cell_later hb h0,cell_later hb h1,by rw[hb.frozen (p:=⟨r,0,none⟩) hr];exact f0,by rw[hb.frozen (p:=⟨r,1,none⟩) hr];exact f1⟩
structure nK(w W:World)(a0 a1 b0 b1 r0 r1:Value):Prop where
 size:w.heap.size+1+1+1≤W.heap.size
 below:Below w.heap.size w W
 ca0:W.cell? ⟨w.heap.size,0,none⟩=some a0
 ca1:W.cell? ⟨w.heap.size,1,none⟩=some a1
 cb0:W.cell? ⟨w.heap.size+1,0,none⟩=some b0
 cb1:W.cell? ⟨w.heap.size+1,1,none⟩=some b1
 cr0:W.cell? ⟨w.heap.size+1+1,0,none⟩=some r0
 cr1:W.cell? ⟨w.heap.size+1+1,1,none⟩=some r1
 fr0:W.frozen? ⟨w.heap.size+1+1,0,none⟩=false
 fr1:W.frozen? ⟨w.heap.size+1+1,1,none⟩=false
theorem rM(w:World)(a0 a1 b0 b1 r0 r1:Value)(ta tb tr k:Nat):nK w ((((w.alloc (.cells #[a0,a1] ta)).alloc (.cells #[b0,b1] tb)).alloc (.cells #[r0,r1] tr)).drewN k) a0 a1 b0 b1 r0 r1:=by
 refine⟨by simp,below_drewN ((((Below.refl _ _).alloc (Nat.le_refl _) _).alloc (by simp) _).alloc (by simp;omega) _) k,?_,?_,?_,?_,?_,?_,?_,?_⟩<;>simp[go_sem,World.cell?_alloc_past,World.frozen?_alloc_past]
theorem fD(w:World)(a0 a1 b0 b1 r0 r1:Value)(ta tb tr:Nat):nK w (((w.alloc (.cells #[a0,a1] ta)).alloc (.cells #[b0,b1] tb)).alloc (.cells #[r0,r1] tr)) a0 a1 b0 b1 r0 r1:=by
 refine⟨by simp,(((Below.refl _ _).alloc (Nat.le_refl _) _).alloc (by simp) _).alloc (by simp;omega) _,?_,?_,?_,?_,?_,?_,?_,?_⟩<;>simp[go_sem,World.cell?_alloc_past,World.frozen?_alloc_past]
theorem nK.later{w W W':World}{a0 a1 b0 b1 r0 r1:Value}(h:nK w W a0 a1 b0 b1 r0 r1)(hb:Below W.heap.size W W'):nK w W' a0 a1 b0 b1 r0 r1:=by
 obtain⟨c0,c1,f0,f1⟩:=bM hb h.cr0 h.cr1 h.fr0 h.fr1
 exact⟨Nat.le_trans h.size hb.size,h.below.trans (hb.mono (by have:=h.size;omega)),cell_later hb h.ca0,cell_later hb h.ca1,cell_later hb h.cb0,cell_later hb h.cb1,c0,c1,f0,f1⟩
theorem gQ{w W w1 w2:World}{r:Nat}{sg:Bool}{zs:List Int}{e:TypeId}{z:Int}{u v:Value}(hw:Below w.heap.size w W)(hr:w.heap.size≤r)(hr':r<W.heap.size)
  (hz:Row w1 W.heap.size e .u32 zs) (hu:U32 zs) (hb1:Below W.heap.size W w1) (hb2:Below w1.heap.size w1 w2) (hv:ak sg zs=z):
  NI w.heap.size ((w2.setCell ⟨r,0,none⟩ u).setCell ⟨r,1,none⟩ v) (nsg sg zs) (nad (some ⟨W.heap.size,0,none⟩) zs) (ad zs) (tr zs) z∧Below w.heap.size w ((w2.setCell ⟨r,0,none⟩ u).setCell ⟨r,1,none⟩ v):=by
 have s1:=hw.size
 have s2:=hb1.size
 subst hv
 exact⟨((((cA (B:=W.heap.size) sg hz.aQ hu (aL (Nat.le_refl _)) (hz.fz 0)).below hb2).set hr' _).set hr' _).mono s1,
  (((hw.trans (hb1.mono s1)).trans (hb2.mono (by omega))).setCell (p:=⟨r,0,none⟩) hr _).setCell (p:=⟨r,1,none⟩) hr _⟩
theorem kr(s:Bool)(xs:List Int):ak (!s) xs = - ak s xs:=by cases s<;>simp[ak]
structure vP(w W:World)(a0 a1 b0 b1:Value):Prop where
 size:w.heap.size+1+1≤W.heap.size
 below:Below w.heap.size w W
 ca0:W.cell? ⟨w.heap.size,0,none⟩=some a0
 ca1:W.cell? ⟨w.heap.size,1,none⟩=some a1
 cb0:W.cell? ⟨w.heap.size+1,0,none⟩=some b0
 cb1:W.cell? ⟨w.heap.size+1,1,none⟩=some b1
theorem C0(w:World)(a0 a1 b0 b1:Value)(ta tb:Nat):vP w ((w.alloc (.cells #[a0,a1] ta)).alloc (.cells #[b0,b1] tb)) a0 a1 b0 b1:=by
 refine⟨by simp,((Below.refl _ _).alloc (Nat.le_refl _) _).alloc (by simp) _,?_,?_,?_,?_⟩<;>simp[go_sem,World.cell?_alloc_past,World.frozen?_alloc_past]
theorem vP.later{w W W':World}{a0 a1 b0 b1:Value}(h:vP w W a0 a1 b0 b1)(hb:Below W.heap.size W W'):vP w W' a0 a1 b0 b1:=
 ⟨Nat.le_trans h.size hb.size,h.below.trans (hb.mono (by have:=h.size;omega)),cell_later hb h.ca0,cell_later hb h.ca1,cell_later hb h.cb0,cell_later hb h.cb1⟩
theorem aC{W w1:World}(h:Below W.drew.heap.size W.drew w1):Below W.heap.size W w1:=⟨h.os,h.tape,h.output,h.size,h.block⟩
end Go.Proofs.YtfnkomoickanfaaGreatDoor
