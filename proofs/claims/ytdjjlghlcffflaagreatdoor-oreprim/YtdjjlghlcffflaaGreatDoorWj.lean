/- Own. -/
import Derived.Test.YtdjjlghlcffflaaGreatDoorVq
set_option linter.unusedVariables false
set_option linter.unusedSimpArgs false
set_option maxHeartbeats 8000000
set_option maxRecDepth 100000
namespace Go.Proofs.YtdjjlghlcffflaaGreatDoor
open Go.RowKit
theorem iV(g o cap:Nat)(Z:List Int)(p q:Option Addr)(n nc m mc:Nat)(xs ys:List Int)(w:World)
  (hz:o+(n+m)<=Z.length) (hcap:cap<=1099511627776) (hn:n+m<=cap) (hR:Row w g 97 .u32 Z) (hZ:(Z.drop o).take (n+m)=au (n+m)) (hx:xs.length=n) (hy:ys.length=m)
  (hX:Rd w p .u32 xs) (hXu:U32 xs) (hY:Rd w q .u32 ys) (hYu:U32 ys) (hoffx:0<n->Off g p) (hoffy:0<m->Off g q) (h80:n<80\/m<80):
  Calls Tryz.prog 201 #[.slice (some ⟨g,o,none⟩) (n+m) cap,.slice p n nc,.slice q m mc] w fun e w'=>∃R,e=.returned (.tuple #[])/\R.length=n+m/\U32 R/\val R=val xs*val ys/\Row w' g 97 .u32 (mid Z o R)/\w.grownBy w' (some g):=by
 by_cases hlt:n<m
 ·have h1:(n:Int)<m:=by omega
  have h2:(n:Int)<80:=by omega
  go_enter Tryz.func201,Tryz.ntmps201;go_wp2_with fail;have hmr:=kr g o cap Z q p m mc n nc ys xs w (by omega) hcap (by omega) hR (by rw[Nat.add_comm m n];exact hZ) hy hx hY hYu hX hXu hoffy hoffx
  rw[Nat.add_comm m n] at hmr
  refine hmr.mono ?_;rintro e w' ⟨R,rfl,r1,r2,r3,r4,r5⟩;go_wp2;go_end0;exact⟨R,rfl,r1,r2,by rw[r3,JI],r4,r5⟩
 ·have h1:¬(n:Int)<m:=by omega
  have h2:(m:Int)<80:=by omega
  go_enter Tryz.func201,Tryz.ntmps201;go_wp2_with fail;refine(kr g o cap Z p q n nc m mc xs ys w hz hcap hn hR hZ hx hy hX hXu hY hYu hoffx hoffy).mono ?_;rintro e w' ⟨R,rfl,r1,r2,r3,r4,r5⟩;go_wp2;go_end0;exact⟨R,rfl,r1,r2,r3,r4,r5⟩
theorem vz(p q:Option Addr)(n nc m mc:Nat)(xs ys:List Int)(w:World)(hn:n<=100000000)(hm:m<=100000000)(hx:xs.length=n)(hy:ys.length=m)
  (hX:Rd w p .u32 xs) (hXu:U32 xs) (hY:Rd w q .u32 ys) (hYu:U32 ys) (h80:n<80\/m<80):
  Calls Tryz.prog 174 #[.slice p n nc,.slice q m mc] w fun e w'=>∃R,e=.returned (.slice (some ⟨w.heap.size,0,none⟩) (n+m) (n+m))/\R.length=n+m/\U32 R/\val R=val xs*val ys/\Row w' w.heap.size 97 .u32 R/\Below w.heap.size w w':=by
 have hmk:=jB (n+m) (by omega)
 have ec:((n+m:Nat):Int)=(n:Int)+(m:Int):=by omega
 rw[ec] at hmk
 clear ec;go_enter Tryz.func174,Tryz.ntmps174;go_wp2_with fail;refine(iV w.heap.size 0 (n+m) (au (n+m)) p q n nc m mc xs ys _ (by rw[aZ];omega) (by omega) (Jr _) (Row.new w _ _ _) (by rw[List.drop_zero,Jv (by rw[aZ];omega)]) hx hy (hX.alloc _) hXu (hY.alloc _) hYu (fun h=>hX.off (Jr _) (by omega)) (fun h=>hY.off (Jr _) (by omega)) h80).mono ?_
 rintro e w' ⟨R,rfl,r1,r2,r3,r4,r5⟩;go_wp2;go_ret;rw[wV _ _ (by rw[r1,aZ])] at r4
 exact⟨R,rfl,r1,r2,r3,r4,cQ ((Jt _ _).alloc (Jr _) _) r5 (by simp) (Jr _)⟩
theorem wL(s t:Bool)(xs ys zs:List Int)(h:val zs=val xs*val ys):aq (s != t) zs=aq s xs*aq t ys:=by
 cases s<;>cases t<;>simp[aq,h,Int.neg_mul,Int.mul_neg]
theorem Bj(s t:Bool)(p q:Option Addr)(n nc m mc:Nat)(xs ys:List Int)(w:World)(hA:AI w p n nc xs)(hB:AI w q m mc ys)(h80:n<80\/m<80):
  Calls Tryz.prog 134 #[.agg #[.bool s,.slice p n nc],.agg #[.bool t,.slice q m mc]] w fun e w'=>∃s' p' n' zs,e=.returned (.agg #[.bool s',.slice p' n' n'])/\NI w.heap.size w' s' p' n' zs (aq s xs*aq t ys)/\n'<=n+m/\Below w.heap.size w w':=by
 have tx:=aj xs;have ty:=aj ys;have lx:=hA.len;have ly:=hB.len;have bx:=hA.sml;have by':=hB.sml;go_enter Tryz.func134,Tryz.ntmps134;go_wp2;have hX:=iJ w (.bool s) (.slice p n nc) (.bool t) (.slice q m mc) (.bool false) (.slice none 0 0) 50 50 50;generalize ((w.alloc (Obj.cells #[Value.bool s,Value.slice p n nc] 50)).alloc (Obj.cells #[Value.bool t,Value.slice q m mc] 50)).alloc (Obj.cells #[Value.bool false,Value.slice none 0 0] 50)=W at *
 have hA':=hA.below hX.below;have hB':=hB.below hX.below;have k0:=hX.ca0;have k1:=hX.ca1;have k2:=hX.cb0;have k3:=hX.cb1;go_region_held3 (fun w'=>w'.cell? ⟨w.heap.size,0,none⟩=some (.bool s)/\w'.cell? ⟨w.heap.size,1,none⟩=some (.slice p n nc)/\w'.cell? ⟨w.heap.size+1,0,none⟩=some (.bool t)/\w'.cell? ⟨w.heap.size+1,1,none⟩=some (.slice q m mc)) (first|(simp[go_sem, *];done)|exact dU (by assumption) (by assumption))
  (first
   |(go_at_call_of 78 (Value.slice p n nc);refine(aS p n nc xs _ hA.len hA.cap hA.bnd ?_).mono ?_;exact hA'.rd.drew;rintro e w' ⟨rfl,rfl⟩)
   |(go_at_call_of 78 (Value.slice q m mc);refine(aS q m mc ys _ hB.len hB.cap hB.bnd ?_).mono ?_;exact hB'.rd.drew;rintro e w' ⟨rfl,rfl⟩)
   |(go_at_call 174;refine(vz p q (ad xs) nc (ad ys) mc (tr xs) (tr ys) _ (by omega) (by omega) (af xs) (af ys) ?_ (cC hA.u) ?_ (cC hB.u) (by omega)).mono ?_;exact hA'.tr.rd.drew;exact hB'.tr.rd.drew;rintro e w1 ⟨zs,rfl,z1,z2,z3,z4,hb1⟩)
   |(go_at_call 115;refine(b7 (s != t) (some ⟨W.heap.size,0,none⟩) (ad xs+ad ys) (ad xs+ad ys) zs _ z1 (Jr _) (by unfold maxLen;omega) ?_).mono ?_;exact z4.a8;rintro e w2 ⟨rfl,hb2⟩;obtain⟨c0,c1,f0,f1⟩:=cj ((aQ hb1).trans (hb2.mono (aQ hb1).size)) hX.cr0 hX.cr1 hX.fr0 hX.fr1))
 go_wp2;have hsz:=hX.size;have hend:=ir (z:=aq s xs*aq t ys) (sg:=s != t) (u:=.bool (nsg (s != t) zs)) (v:=.slice (nad (some ⟨W.heap.size,0,none⟩) zs) (ad zs) (ad zs)) hX.below (r:=w.heap.size+1+1) (by omega) (by omega) z4 z2 (aQ hb1) hb2 (by rw[aK,aK] at z3;exact wL s t xs ys zs z3)
 refine bodyPost_ret (v:=.agg #[.bool (nsg (s != t) zs),.slice (nad (some ⟨W.heap.size,0,none⟩) zs) (ad zs) (ad zs)]) (by simp[results,Tryz.results134,go_sem,c0,c1]) rfl ⟨_,_,_,tr zs,rfl,hend.1,?_,hend.2⟩
 have:=aj zs;omega
def ps(zs ys:List Int):Nat->Nat->Int
 |0,_=>0
 |i+1,t=>ps zs ys i t+(if i<=t then gx zs i*gx ys (t-i) else 0)
def pj(zs ys:List Int)(i j t:Nat):Int:=ps zs ys i t+(if i<=t/\t<i+j then gx zs i*gx ys (t-i) else 0)
theorem GA(zs ys:List Int)(i t:Nat):pj zs ys i 0 t=ps zs ys i t:=by
 rw[pj,if_neg (by omega),Int.add_zero]
theorem IC(zs ys:List Int)(i t:Nat):pj zs ys i ys.length t=ps zs ys (i+1) t:=by
 rw[pj,ps];by_cases h:i<=t
 ·rw[if_pos h]
  by_cases h2:t<i+ys.length
  ·rw[if_pos ⟨h,h2⟩]
  ·rw[if_neg (by omega),ak ys ys.length (Jr _) (t-i) (by omega),JC]
 ·rw[if_neg (by omega),if_neg h]
theorem xm(zs ys:List Int)(i j:Nat):pj zs ys i (j+1) (i+j)=pj zs ys i j (i+j)+gx zs i*gx ys j:=by
 rw[pj,pj,if_pos (by omega),if_neg (by omega),Int.add_zero,Nat.add_sub_cancel_left]
theorem vy(zs ys:List Int)(i j t:Nat)(h:t≠i+j):pj zs ys i (j+1) t=pj zs ys i j t:=by
 rw[pj,pj];by_cases h1:i<=t/\t<i+j
 ·rw[if_pos (by omega),if_pos h1]
 ·rw[if_neg (by omega),if_neg h1]
theorem jZ(zs ys:List Int)(i t:Nat)(h:gx zs i=0):ps zs ys (i+1) t=ps zs ys i t:=by
 rw[ps,h];split<;>simp
variable {x y:Int} {K L:Nat}
theorem zR(hx:(x.natAbs:Int)<pw K)(hy:(y.natAbs:Int)<pw L):((x*y).natAbs:Int)<=pw (K+L):=by
 rw[Int.natAbs_mul,fA];push_cast;exact Int.mul_le_mul (by omega) (by omega) (by omega) (by have:=bu K;omega)
variable {zs ys:List Int}
theorem Jg(hx:∀i,((gx zs i).natAbs:Int)<pw K)(hy:∀i,((gx ys i).natAbs:Int)<pw L)(i t:Nat):((ps zs ys i t).natAbs:Int)<=i*pw (K+L):=by
 induction i with
 |zero=>simp[ps]
 |succ i ih=>
  rw[ps];have h1:=zR (hx i) (hy (t-i));have h2:=bu (K+L);have e:((i+1:Nat):Int)*pw (K+L)=i*pw (K+L)+pw (K+L):=by push_cast;rw[Int.add_mul,Int.one_mul]
  rw[e];split<;>omega
theorem Je(hx:∀i,((gx zs i).natAbs:Int)<pw K)(hy:∀i,((gx ys i).natAbs:Int)<pw L)(i j t:Nat)(hi:i<=1000000):((pj zs ys i j t).natAbs:Int)<pw (K+L+1):=by
 have h1:=Jg hx hy i t;have h2:=zR (hx i) (hy (t-i));have h3:=bu (K+L);have e:pw (K+L+1)=4294967296*pw (K+L):=bE _;have h4:(i:Int)*pw (K+L)<=1000000*pw (K+L):=Jy (by omega) (by omega)
 rw[pj,e];split<;>omega
variable {w:World} {p:Option Addr} {n nc:Nat} {es:List Ent}
theorem PA.gbd(h:PA w K p n nc es zs):∀i,((gx zs i).natAbs:Int)<pw K:=fun i=>by
 rcases Ju i n with hlt|hge
 ·obtain⟨xs,h1,h2,h3⟩:=h.ev i hlt
  have h4:=h1.lt (ge es i).s;rw[h2] at h4
  have:=aW h3;omega
 ·rw[ak zs n (by rw[h.zl];exact Jr _) i hge]
  exact bu K
variable {e f:Ent}
theorem Bi(h:EV w K x e)(k:EV w L y f)(hK:K<80):Calls Tryz.prog 134 #[.agg #[.bool e.s,.slice e.p e.n e.c],.agg #[.bool f.s,.slice f.p f.n f.c]] w fun r w'=>∃u:Ent,r=.returned (.agg #[.bool u.s,.slice u.p u.n u.c])/\NV w.heap.size w' (K+L) (x*y) u/\Below w.heap.size w w':=by
 obtain⟨xs,h1,rfl,h3⟩:=h;obtain⟨ys,k1,rfl,k3⟩:=k;refine(Bj e.s f.s e.p f.p e.n e.c f.n f.c xs ys w h1 k1 (.inl (by omega))).mono ?_
 rintro r w' ⟨s',p',n',zs,g1,g2,g3,g4⟩;exact⟨⟨s',p',n',n'⟩,g1,⟨zs,g2,rfl,by show n'<=_;omega⟩,g4⟩
variable {B M:Nat} {z:Int}
theorem NV.le(h:NV B w K z e)(hz:(z.natAbs:Int)<pw M):NV B w M z e:=by
 obtain⟨xs,h1,h2,h3⟩:=h;exact⟨xs,h1,h2,h1.le hz⟩
variable {r g o:Nat} {a0 a1 u v:Value}
theorem Bb(h:Bx w r a0 a1)(hne:r≠g):Bx ((w.setCell ⟨g,o,none⟩ u).setCell ⟨g,o+1,none⟩ v) r a0 a1:=by
 have e:((w.setCell ⟨g,o,none⟩ u).setCell ⟨g,o+1,none⟩ v).heap[r]?=w.heap[r]?:=(heap_setCell_other _ _ r v hne).trans (heap_setCell_other _ _ r u hne);exact⟨(World.cell?_of_block (a:=⟨r,0,none⟩) e).trans h.c0,(World.cell?_of_block (a:=⟨r,1,none⟩) e).trans h.c1,(World.frozen?_of_block (a:=⟨r,0,none⟩) e).trans h.f0,(World.frozen?_of_block (a:=⟨r,1,none⟩) e).trans h.f1⟩
def gD(zs ys:List Int):List Int:=(List.range (zs.length+ys.length-1)).map (ps zs ys zs.length)
theorem cx(zs ys:List Int):(gD zs ys).length=zs.length+ys.length-1:=by simp[gD]
theorem pE(zs ys:List Int)(t:Nat)(h:t<zs.length+ys.length-1):gx (gD zs ys) t=ps zs ys zs.length t:=by
 rw[bZ _ _ (by rw[cx];exact h)]
 simp[gD]
theorem oJ(zs ys:List Int)(t:Nat):∀i,i+ys.length<=t+1->ps zs ys i t=0
 |0,_=>rfl
 |i+1,h=>by
  rw[ps,oJ zs ys t i (by omega),ak ys ys.length (Jr _) (t-i) (by omega)]
  simp
theorem Eg(h1:ad zs=zs.length)(h2:ad ys=ys.length)(hz:0<zs.length)(hy:0<ys.length):ad (gD zs ys)=zs.length+ys.length-1:=by
 refine aX _ _ (fun j hj=>ak _ _ (by rw[cx];exact Jr _) j hj) (.inr ?_)
 rw[pE _ _ _ (by omega)]
 obtain⟨a,ha⟩:∃a,zs.length=a+1:=⟨zs.length-1,by omega⟩
 rw[ha,ps,oJ _ _ _ _ (by omega),if_pos (by omega)]
 have e1:=aw zs (by omega)
 have e2:=aw ys (by omega)
 rw[h1,ha] at e1
 rw[h2] at e2
 have e3:a+1+ys.length-1-1-a=ys.length-1:=by omega
 rw[e3];have e4:a+1-1=a:=by omega
 rw[e4] at e1
 rw[Int.zero_add];exact Int.mul_ne_zero e1 e2
theorem rk(n:Nat)(h:n<=1000000000)(w:World):(Instr.makeSlice 31 (.int .i64 n) (.int .i64 n)).run Tryz.prog w =
  .ok (.slice (some ⟨w.heap.size,0,none⟩) n n) (w.alloc (.cells (ca2 (ezs n)) 65)):=by
 have hi:=iT
 cases hq:Tryz.prog.info? 65 with
 |none=>rw[hq] at hi;cases hi
 |some i=>
  rw[hq] at hi
  simp only[Option.map_some,Option.some.injEq,Prod.mk.injEq] at hi
  obtain⟨h1,h2,h3⟩:=hi;have hr:=run_make (P:=Tryz.prog) w 31 65 i (.agg #[.bool false,.slice none 0 0]) Tryz.underlying31 hq h1 .i64 .i64 n n (by omega) (Int.le_refl _) (by rw[h3];omega) (by omega)
  rw[Int.toNat_natCast,h2] at hr
  rw[hr];exact congrArg (fun c=>Result.ok (Value.slice (some ⟨w.heap.size,0,none⟩) n n) (w.alloc (.cells c 65))) (zm n)
def RF(B:Nat)(w:World)(N:Nat)(z:Int)(e:Ent):Prop:=RE w N z e/\aJ B e.p
variable {w':World} {N:Nat}
theorem RF.below(h:RF B w N z e)(hb:Below w.heap.size w w'):RF B w' N z e:=⟨h.1.below hb,h.2⟩
variable {B':Nat}
theorem RF.mono(h:RF B w N z e)(hB:B'<=B):RF B' w N z e:=⟨h.1,fun a ha=>JA hB (h.2 a ha)⟩
theorem RF.b8(h:RF B w N z e)(hg:g<B)(u v:Value):RF B ((w.setCell ⟨g,o,none⟩ u).setCell ⟨g,o+1,none⟩ v) N z e:=
 ⟨h.1.b8 (fun _ a ha=>by have:=h.2 a ha;omega),h.2⟩
theorem RF.le(h:RF B w N z e)(hz:(z.natAbs:Int)<pd M):RF B w M z e:=by
 obtain⟨⟨⟨ds,h1,h2,h3⟩,h4⟩,h5⟩:=h;exact⟨⟨⟨ds,h1,h2,h1.fit (by rw[h2];exact hz)⟩,h4⟩,h5⟩
theorem RF.ez(B:Nat)(w:World)(N:Nat):RF B w N 0 ez:=⟨⟨⟨[],⟨rfl,Rd.nil,fun j=>by simp[gx],by decide,fun _=>rfl,Jz _⟩,by decide,Jz _⟩,rfl⟩,fun a ha=>by cases ha⟩
def PrR(F:Nat->Int)(M g N:Nat)(W0 wr:World):Prop:=
 ∃es,bA wr g 65 es/\es.length=N/\(∀t,t<N->RF (g+1) wr M (F t) (ge es t))/\Below g W0 wr
variable {v3:World} {i j:Nat} {us:List Ent}
theorem AV{W0 W2 v2:World}{M' t:Nat}{e2:Ent}(hR1:bA W2 w.heap.size 65 us)(hul:us.length=N)(hev:∀t,t<N->RF (w.heap.size+1) W2 M (pj zs ys i j t) (ge us t))(hB1:Below w.heap.size W0 W2)
  (hpb:((pj zs ys i (j+1) t).natAbs:Int)<pd M) (ht:t=i+j) (htN:t<N) (hs0:w.heap.size+1<=W0.heap.size)
  (hV2:Below W2.heap.size W2 v2) (hb3:Below v2.heap.size v2 v3) (hN2:RF v2.heap.size v3 M' (pj zs ys i j t+gx zs i*gx ys j) e2):
  PrR (pj zs ys i (j+1)) M w.heap.size N W0 ((v3.setCell ⟨w.heap.size,t*2,none⟩ (.bool e2.s)).setCell ⟨w.heap.size,t*2+1,none⟩ (.slice e2.p e2.n e2.c)):=by
 have hb:=ae hV2 hb3;have hR3:=hR1.below hb hR1.lt;have hs1:=hB1.size;have hs2:=hV2.size;have hval:pj zs ys i j t+gx zs i*gx ys j=pj zs ys i (j+1) t:=by subst ht;exact(xm zs ys i j).symm
 rw[hval] at hN2
 refine⟨us.set t e2,hR3.set t e2 (by omega),by simpa using hul,fun t' ht'=>?_,?_⟩
 ·by_cases he:t'=t
  ·subst he
   rw[cR _ _ _ (by omega)]
   exact((hN2.le hpb).mono (by omega)).b8 (by omega) _ _
  ·rw[cG _ _ _ _ he,vy _ _ _ _ _ (by omega)]
   exact((hev t' ht').below hb).b8 (by omega) _ _
 ·exact((hB1.trans (hb.mono (by omega))).setCell (p:=⟨w.heap.size,t*2,none⟩) (Jr _) _).setCell (p:=⟨w.heap.size,t*2+1,none⟩) (Jr _) _
variable {q:Option Addr} {m mc:Nat} {fs:List Ent}
theorem yG{A:Nat}(h:PR w A p n nc es zs)(k:PR w B q m mc fs ys)(hn:n<=1000)(hm:m<=1000)(hn1:1<=n)(hm1:1<=m)(hA:A<=200)(hB:B<=200)(hX:∀i,((gx zs i).natAbs:Int)<pw K)(hY:∀i,((gx ys i).natAbs:Int)<pw L)(hKL:K+L<=100):
  Calls Tryz.prog 27 #[.slice p n nc,.slice q m mc] w (PrF (tr (gD zs ys)) (2*(K+L+1)) w):=by
 have hel:=h.el;have hfl:=k.el;have hzl:=h.zl;have hyl:=k.zl;obtain⟨N,hN⟩:∃N,N=n+m-1:=⟨_,rfl⟩;have hNI:(n:Int)+(m:Int)-1=(N:Int):=by omega
 have w1:IntKind.i64.wrap ((n:Int)+(m:Int))=(n:Int)+(m:Int):=by rw[IntKind.wrap_i64];omega
 have w2:IntKind.i64.wrap (N:Int)=(N:Int):=by rw[IntKind.wrap_i64];omega
 have g1:((n:Int)==0)=false:=by rw[beq_eq_false_iff_ne];omega
 have g2:((m:Int)==0)=false:=by rw[beq_eq_false_iff_ne];omega
 have g3:¬(n:Int)=0:=by omega
 have g4:¬(m:Int)=0:=by omega
 have HN:Hid (N=n+m-1):=hN;have hN3:N<=2000:=by omega
 obtain⟨S,hS⟩:∃S,S=2*(K+L+1):=⟨_,rfl⟩;rw[<-hS];have HS:Hid (S=2*(K+L+1)):=hS;have hS2:S<=202:=by omega
 clear hN hS;have hmk:=rk N (by omega)
 have HX:=(show Hid (∀i,((gx zs i).natAbs:Int)<pw K) from hX)
 have HY:=(show Hid (∀i,((gx ys i).natAbs:Int)<pw L) from hY)
 clear hX hY;go_enter Tryz.func27,Tryz.ntmps27;go_wp2_with fail;have hR0:=bA.new w 65 (ezs N);have hW0:Below w.heap.size w (w.alloc (.cells (ca2 (ezs N)) 65)):=(Jt _ _).alloc (Jr _) _;have hs0:w.heap.size+1<=(w.alloc (.cells (ca2 (ezs N)) 65)).heap.size:=by simp
 generalize w.alloc (.cells (ca2 (ezs N)) 65)=W0 at *
 clear hmk;go_loopw [6,7] (fun iv jv wr=>∃i:Nat,i<=n/\iv=.int .i64 i/\Hid (PrR (ps zs ys i) S w.heap.size N W0 wr)) (fun iv _ _=>n-(intOf iv).toNat)
 case atStart=>exact⟨0,Jz _,by go_num,ezs N,hR0,bL N,fun t ht=>by rw[jy];exact RF.ez _ _ _,Jt _ _⟩
 case round=>
  obtain⟨i,hi,rfl,H⟩:=hrel;rcases Ju i n with hlt|hge
  ·have i1:(i:Int)<(n:Int):=by omega
   go_wp2_with fail;go_loopw [7] (fun jv w3=>∃j:Nat,j<=m/\jv=.int .i64 j/\Hid (PrR (pj zs ys i j) S w.heap.size N W0 w3)) (fun jv _=>m-(intOf jv).toNat)
   case atStart=>
    obtain⟨es',hR,hel',hev,hB⟩:=H.out;exact⟨0,Jz _,by go_num,es',hR,hel',fun t ht=>by rw[GA];exact hev t ht,hB⟩
   case round=>
    obtain⟨j,hj,rfl,HJ⟩:=hrel;rcases Ju j m with hjm|hjm
    ·obtain⟨us,hR1,hul,hev,hB1⟩:=HJ.out
     have hBw:Below w.heap.size w wr:=hW0.trans hB1;have hPA:=h.below hBw;have hQA:=k.below hBw;obtain⟨b,o,hp,hc⟩:=hPA.pl (by omega)
     obtain⟨c,r,hq,hd⟩:=hQA.pl (by omega)
     subst hp hq;obtain⟨c0,c1⟩:=hc i (by omega)
     obtain⟨d0,d1⟩:=hd j (by omega)
     have hv:=hPA.ev i hlt;have hu:=hQA.ev j hjm;have j1:(j:Int)<(m:Int):=by omega
     obtain⟨t,ht⟩:∃t,t=i+j:=⟨_,rfl⟩;have hwt:IntKind.i64.wrap ((i:Int)+(j:Int))=(t:Int):=by rw[IntKind.wrap_i64];omega
     have htN:t<N:=by have:=HN.out;omega
     have HT:Hid (t=i+j):=ht;obtain⟨x0,x1⟩:=hR1.cell t (by omega)
     have HE:Hid (∀t,t<N->RF (w.heap.size+1) wr S (pj zs ys i j t) (ge us t)):=hev;have hpb:Hid (((pj zs ys i (j+1) t).natAbs:Int)<pd S):=by
      show _<_
      rw[HS.out,sH];exact Je HX.out HY.out i (j+1) t (by omega)
     have hmu:=CK hv.drew hu.drew (by omega) (by omega)
     clear ht hev hc hd hPA hQA HJ;go_wp2_with fail;go_region_with (first
      |(go_at_call 65;go_fit hmu;rintro r v2 ⟨e1,rfl,hN1,hF1,hb2⟩;have hV2:=aQ hb2;have hR2:=hR1.below hV2 hR1.lt;obtain⟨y0,y1⟩:=hR2.cell t (by omega);have had:=xC ((HE.out t htN).1.below hV2) hN1 (by omega) (by omega))
      |(go_at_call 64;go_fit had;rintro r v3 ⟨e2,rfl,hN2,hF2,hb3⟩;have hR3:=hR2.below hb3 hR2.lt;obtain⟨z0,z1⟩:=hR3.cell t (by omega);have f0:=hR3.frozen (t*2);have f1:=hR3.frozen (t*2+1)))
     all_goals
      have hstep:=AV (zs:=zs) (ys:=ys) (i:=i) (j:=j) hR1 hul HE.out hB1 hpb.out HT.out htN hs0 hV2 hb3 ⟨hN2,hF2⟩;have HST:=(show Hid _ from hstep)
      clear hstep x0 x1 y0 y1 c0 c1 d0 d1 hR1 hB1 HE hN1 hN2 hR2 hR3 hv hu hmu had;go_wp2;refine⟨⟨j+1,by omega,by go_num,HST.out⟩,by simp[intOf];omega⟩
    ·obtain rfl:j=m:=by omega
     have HQ:Hid (PrR (ps zs ys (i+1)) S w.heap.size N W0 wr):=by
      obtain⟨us,hR,hul,hev,hB⟩:=HJ.out;exact⟨us,hR,hul,fun t ht=>by rw[<-IC,hyl];exact hev t ht,hB⟩
     clear HJ hjm;go_wp2;refine⟨⟨i+1,by omega,by go_num,HQ.out⟩,by simp[intOf];omega⟩
  ·obtain rfl:i=n:=by omega
   obtain⟨us,hR,hul,hev,hB⟩:=H.out;have hvl:=cx zs ys;have hPR:PR wr S (some ⟨w.heap.size,0,none⟩) N N us (gD zs ys):=⟨hul,by have:=HN.out;omega,Jr _,by unfold maxLen;omega,hR.pl,fun t ht=>by
    rw[pE _ _ _ (by have:=HN.out;omega),hzl]
    exact(hev t ht).1⟩
   have HB:Hid (Below w.heap.size w wr):=hW0.trans hB;have HEV:Hid (∀t,t<N->aJ w.heap.size (ge us t).p):=fun t ht a ha=>JA (Nat.le_succ _) ((hev t ht).2 a ha)
   clear H hge hR hev hB;go_wp2_with fail;refine(gS S _ N N us (gD zs ys) _ hPR (by omega)).mono ?_
   rintro e w1 ⟨rfl,hb1⟩;have HP:Hid (PR wr S (some ⟨w.heap.size,0,none⟩) N N us (gD zs ys)):=hPR;clear hPR;go_wp2;go_ret;have htl:=aj (gD zs ys);have hvk:=HP.out.zl;have hT:=(HP.out.below hb1).take (ad (gD zs ys)) (ad (gD zs ys)) (by omega) (Jr _) (by omega)
   refine⟨_,ad (gD zs ys),us.take (ad (gD zs ys)),rfl,hT,(fun a ha=>by cases ha;exact Jr _),aM _,fun j hj h0=>?_,ae HB.out hb1⟩
   rw[e_ _ _ _ hj];exact HEV.out j (by omega)
theorem PnP.from{e:Ending}{w'':World}(h:PnP zs K w' e w'')(hb:Below w.heap.size w w'):PnP zs K w e w'':=by
 obtain⟨p,n,es,h1,h2,h3⟩:=h;exact⟨p,n,es,h1,h2.mono hb.size,ae hb h3⟩
def ax(zs ys:List Int):List Int:=if zs.length=0\/ys.length=0 then [] else gD zs ys
theorem Cu(B:Nat)(w:World)(K:Nat):PN B w K none 0 [] []:=⟨rfl,rfl,rfl,PL.nil,(fun a h=>by cases h),fun j hj=>by omega⟩
theorem Cv(w:World)(N:Nat):PR w N none 0 0 [] []:=⟨rfl,rfl,Jr _,Jz _,PL.nil,fun j hj=>by omega⟩
theorem CR(w:World)(N:Nat)(p q:Option Addr)(n m nc mc:Nat)(hn:n<=1000000)(hm:m<=1000000)(h:n=0\/m=0):
  Calls Tryz.prog 27 #[.slice p n nc,.slice q m mc] w (PrF [] N w):=by
 by_cases h0:n=0
 ·subst h0
  go_enter Tryz.func27,Tryz.ntmps27;go_wp2;go_ret;exact⟨none,0,[],rfl,Cv _ _,(fun a ha=>by cases ha),rfl,fun j hj=>absurd hj (Nat.not_lt_zero j),Jt _ _⟩
 ·have h1:m=0:=by omega
  subst h1;have g1:((n:Int)==0)=false:=by rw[beq_eq_false_iff_ne];omega
  have g3:¬(n:Int)=0:=by omega
  go_enter Tryz.func27,Tryz.ntmps27;go_wp2;go_ret;exact⟨none,0,[],rfl,Cv _ _,(fun a ha=>by cases ha),rfl,fun j hj=>absurd hj (Nat.not_lt_zero j),Jt _ _⟩
theorem vf{A:Nat}(h:PR w A p n nc es zs)(k:PR w B q m mc fs ys)(hz:ad zs=zs.length)(hy:ad ys=ys.length)(hn:n<=1000)(hm:m<=1000)(hA:A<=200)(hB:B<=200)(hX:∀i,((gx zs i).natAbs:Int)<pw K)(hY:∀i,((gx ys i).natAbs:Int)<pw L)(hKL:K+L<=100):
  Calls Tryz.prog 27 #[.slice p n nc,.slice q m mc] w (PrF (ax zs ys) (2*(K+L+1)) w):=by
 rw[ax,h.zl,k.zl];by_cases h0:n=0\/m=0
 ·rw[if_pos h0]
  exact CR w _ p q n m nc mc (by omega) (by omega) h0
 ·rw[if_neg h0]
  have hzl:=h.zl;have hyl:=k.zl;have:=yG h k hn hm (by omega) (by omega) hA hB hX hY hKL
  rwa [s_ (by rw[Eg hz hy (by omega) (by omega),cx])] at this
theorem ve{A:Nat}(h:PR w A p n nc es zs)(k:PR w B q m mc fs ys)(hz:ad zs=zs.length)(hy:ad ys=ys.length)(hn:n<=1000)(hm:m<=1000)(hA:A<=200)(hB:B<=200)(hX:∀i,((gx zs i).natAbs:Int)<pw K)(hY:∀i,((gx ys i).natAbs:Int)<pw L)(hKL:K+L<=100):
  Calls Tryz.prog 27 #[.slice p n nc,.slice q m mc] w (PrP (ax zs ys) (2*(K+L+1)) w):=
 (vf h k hz hy hn hm hA hB hX hY hKL).mono fun _ _ h=>h.any
end Go.Proofs.YtdjjlghlcffflaaGreatDoor
