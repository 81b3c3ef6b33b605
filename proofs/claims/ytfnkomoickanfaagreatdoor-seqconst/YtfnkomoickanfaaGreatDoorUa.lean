/- Own. -/
import Derived.Test.YtfnkomoickanfaaGreatDoorWd
import Derived.Deep.DeepCutAuto
set_option linter.unusedVariables false
set_option linter.unusedSimpArgs false
set_option maxHeartbeats 8000000
set_option maxRecDepth 100000
namespace Go.Proofs.YtfnkomoickanfaaGreatDoor
open Go.RowKit
structure Ent where
 s:Bool
 p:Option Addr
 n:Nat
 c:Nat
def ez:Ent:=⟨false,none,0,0⟩
def ge(es:List Ent)(i:Nat):Ent:=(es[i]?).getD ez
theorem ic(es:List Ent)(n i:Nat)(h:i<n):ge (es.take n) i=ge es i:=by simp[ge,List.getElem?_take,h]
theorem mM(es:List Ent)(i:Nat)(e:Ent)(h:i<es.length):ge (es.set i e) i=e:=by simp[ge,h]
theorem ll(es:List Ent)(i j:Nat)(e:Ent)(h:j≠i):ge (es.set i e) j=ge es j:=by simp[ge,List.getElem?_set,Ne.symm h]
theorem bP(a b:List Ent)(i:Nat)(h:i<a.length):ge (a++b) i=ge a i:=by simp[ge,List.getElem?_append,h]
theorem ib(a:List Ent)(e:Ent):ge (a++[e]) a.length=e:=by simp[ge]
def PL(w:World)(p:Option Addr)(es:List Ent):Prop:=
 0<es.length→∃b o,p=some ⟨b,o,none⟩∧∀j,j<es.length→w.cell? ⟨b,o+j*2,none⟩=some (.bool (ge es j).s)∧w.cell? ⟨b,o+j*2+1,none⟩=some (.slice (ge es j).p (ge es j).n (ge es j).c)
def ca2(es:List Ent):Array Value:=(es.flatMap fun e=>[.bool e.s,.slice e.p e.n e.c]).toArray
def cK(w:World)(g:Nat)(t:TypeId)(es:List Ent):Prop:=w.heap[g]?=some (.cells (ca2 es) t (0,0))
theorem ki(es:List Ent):∀j,j<es.length→(es.flatMap fun e=>[Value.bool e.s,.slice e.p e.n e.c])[j*2]?=some (.bool (ge es j).s)∧(es.flatMap fun e=>[Value.bool e.s,.slice e.p e.n e.c])[j*2+1]?=some (.slice (ge es j).p (ge es j).n (ge es j).c):=by
 induction es with
 |nil=>intro j hj;simp at hj
 |cons e r ih=>
  intro j hj
  cases j with
  |zero=>exact⟨rfl,rfl⟩
  |succ j=>
   have h:=ih j (by simpa using hj)
   have e1:(j+1)*2=j*2+1+1:=by omega
   have e2:(j+1)*2+1=j*2+1+1+1:=by omega
   have e3:ge (e::r) (j+1)=ge r j:=by simp[ge]
   rw[e1,e3]
   simp only[List.flatMap_cons,List.cons_append,List.nil_append,List.getElem?_cons_succ]
   exact h
theorem mK(es:List Ent):(es.flatMap fun e=>[Value.bool e.s,.slice e.p e.n e.c]).length=es.length*2:=by
 induction es with
 |nil=>rfl
 |cons e r ih=>simp only[List.flatMap_cons,List.length_append,ih,List.length_cons,List.length_nil];omega
theorem Aa(es:List Ent):∀j e,j<es.length→((es.flatMap fun e=>[Value.bool e.s,.slice e.p e.n e.c]).set (j*2) (.bool e.s)).set (j*2+1) (.slice e.p e.n e.c)=(es.set j e).flatMap fun e=>[Value.bool e.s,.slice e.p e.n e.c]:=by
 induction es with
 |nil=>intro j e hj;simp at hj
 |cons a r ih=>
  intro j e hj
  cases j with
  |zero=>rfl
  |succ j=>
   have h:=ih j e (by simpa using hj)
   have e1:(j+1)*2=j*2+1+1:=by omega
   rw[e1]
   simp only[List.flatMap_cons,List.cons_append,List.nil_append,List.set_cons_succ]
   rw[h]
theorem A0(es:List Ent):(ca2 es).size=es.length*2:=by rw[ca2,List.size_toArray,mK]
section
variable {w w':World} {g:Nat} {t:TypeId} {es:List Ent} {p:Option Addr}
theorem cK.lt(h:cK w g t es):g<w.heap.size:=(Array.getElem?_eq_some_iff.1 h).1
theorem cK.cell(h:cK w g t es)(j:Nat)(hj:j<es.length):w.cell? ⟨g,j*2,none⟩=some (.bool (ge es j).s)∧w.cell? ⟨g,j*2+1,none⟩=some (.slice (ge es j).p (ge es j).n (ge es j).c):=by
 obtain⟨h1,h2⟩:=ki es j hj
 rw[cell_of_row w g (j*2) _ t (0,0) h,cell_of_row w g (j*2+1) _ t (0,0) h]
 simp only[ca2,List.getElem?_toArray]
 exact⟨h1,h2⟩
theorem cK.frozen(h:cK w g t es)(j:Nat):w.frozen? ⟨g,j,none⟩=false:=frozen_of_row w g j _ t h
theorem cK.set(h:cK w g t es)(j:Nat)(e:Ent)(hj:j<es.length):cK ((w.setCell ⟨g,j*2,none⟩ (.bool e.s)).setCell ⟨g,j*2+1,none⟩ (.slice e.p e.n e.c)) g t (es.set j e):=by
 unfold cK
 have h1:=heap_setCell_same w g (j*2) _ t (.bool e.s) h
 rw[heap_setCell_same _ g (j*2+1) _ t (.slice e.p e.n e.c) h1]
 simp only[ca2,List.setIfInBounds_toArray]
 rw[Aa es j e hj]
theorem cK.below{B:Nat}(h:cK w g t es)(hb:Below B w w')(hg:g<B):cK w' g t es:=(hb.block g hg).trans h
theorem cK.new(w:World)(t:TypeId)(es:List Ent):cK (w.alloc (.cells (ca2 es) t)) w.heap.size t es:=heap_alloc_new w _
theorem cK.pl(h:cK w g t es):PL w (some ⟨g,0,none⟩) es:=fun _=>⟨g,0,rfl,fun j hj=>by
 simp only[Nat.zero_add];exact h.cell j hj⟩
theorem PL.nil:PL w p []:=fun h=>by simp at h
theorem PL.lt(h:PL w p es)(hx:0<es.length):∃b o,p=some ⟨b,o,none⟩∧b<w.heap.size:=by
 obtain⟨b,o,hp,hc⟩:=h hx
 exact⟨b,o,hp,block_lt_of_cell (hc 0 hx).1⟩
theorem PL.same(h:PL w p es)(hs:∀a,p=some a→a.block<w.heap.size→w'.heap[a.block]?=w.heap[a.block]?):PL w' p es:=fun hx=>by
 obtain⟨b,o,hp,hc⟩:=h hx
 refine⟨b,o,hp,fun j hj=>?_⟩
 have hlt:b<w.heap.size:=block_lt_of_cell (hc 0 hx).1
 have hb:=hs ⟨b,o,none⟩ hp hlt
 exact⟨(World.cell?_of_block (a:=⟨b,o+j*2,none⟩) hb).trans (hc j hj).1,(World.cell?_of_block (a:=⟨b,o+j*2+1,none⟩) hb).trans (hc j hj).2⟩
theorem PL.below(h:PL w p es)(hb:Below w.heap.size w w'):PL w' p es:=h.same fun a _ hlt=>hb.block a.block hlt
theorem PL.ah(h:PL w p es)(a:Addr)(v:Value)(hne:Off a.block p):PL (w.setCell a v) p es:=h.same fun b hb _=>heap_setCell_other w a b.block v (hne b hb)
theorem PL.take(h:PL w p es)(n:Nat):PL w p (es.take n):=fun hx=>by
 obtain⟨b,o,hp,hc⟩:=h (by simp at hx;omega)
 refine⟨b,o,hp,fun j hj=>?_⟩
 have:j<n∧j<es.length:=by simp at hj;omega
 rw[ic _ _ _ this.1];exact hc j this.2
end
def EV(w:World)(K:Nat)(z:Int)(e:Ent):Prop:=∃xs,AI w e.p e.n e.c xs∧ak e.s xs=z∧e.n≤K
structure PA(w:World)(K:Nat)(p:Option Addr)(n nc:Nat)(es:List Ent)(zs:List Int):Prop where
 el:es.length=n
 zl:zs.length=n
 cap:n≤nc
 bnd:nc≤maxLen
 pn:p=none→nc=0
 pl:PL w p es
 ev:∀j,j<n→EV w K (gx zs j) (ge es j)
section
variable {w w':World} {K:Nat} {z:Int} {e:Ent} {p:Option Addr} {n nc:Nat} {es:List Ent} {zs:List Int}
theorem EV.below(h:EV w K z e)(hb:Below w.heap.size w w'):EV w' K z e:=by
 obtain⟨xs,h1,h2⟩:=h
 exact⟨xs,h1.below hb,h2⟩
theorem PA.below(h:PA w K p n nc es zs)(hb:Below w.heap.size w w'):PA w' K p n nc es zs:=⟨h.el,h.zl,h.cap,h.bnd,h.pn,h.pl.below hb,fun j hj=>(h.ev j hj).below hb⟩
theorem PA.take(h:PA w K p n nc es zs)(m:Nat)(hm:m≤n):PA w K p m nc (es.take m) (zs.take m):=
 ⟨by have:=h.el;simp;omega,by have:=h.zl;simp;omega,by have:=h.cap;omega,h.bnd,h.pn,h.pl.take m,fun j hj=>by rw[bQ _ _ _ hj,ic _ _ _ hj];exact h.ev j (by omega)⟩
theorem PA.clip(h:PA w K p n nc es zs):(p=none→n=0)→PA w K p n n es zs:=fun hp=>⟨h.el,h.zl,Nat.le_refl _,by have:=h.cap;have:=h.bnd;omega,hp,h.pl,h.ev⟩
end
def aG(z:Int):Int:=if z=0 then 0 else if z<0 then -1 else 1
theorem pF{s:Bool}{xs:List Int}(hU:U32 xs)(h:ad xs=0):aG (ak s xs)=0:=by
 have:=(bO hU).1 h
 cases s<;>simp[ak,aG,this]
theorem yq{s:Bool}{xs:List Int}(hU:U32 xs)(h:ad xs≠0):aG (ak s xs)=if s then -1 else 1:=by
 have h1:val xs≠0:=fun e=>h ((bO hU).2 e)
 have h2:=aA hU
 cases s
 ·simp only[ak,aG,Bool.false_eq_true,if_false];rw[if_neg h1,if_neg (by omega)]
 ·simp only[ak,aG,if_true];rw[if_neg (by omega),if_pos (by omega)]
theorem mT(s:Bool)(p:Option Addr)(n nc:Nat)(xs:List Int)(w:World)(hA:AI w p n nc xs):
  Calls Tryz.prog 102 #[.agg #[.bool s,.slice p n nc]] w fun e w'=>e=.returned (.int .i64 (aG (ak s xs)))∧Below w.heap.size w w':=by
 have tx:=ao xs
 by_cases h0:ad xs=0
 ·rw[pF hA.u h0]
  go_enter Tryz.func102,Tryz.ntmps102
  go_wp2_with (go_at_call 106;refine(aM p n nc xs _ hA.len hA.cap hA.bnd (hA.rd.alloc _)).mono ?_;rintro e w' ⟨rfl,rfl⟩)
  go_ret
  exact⟨rfl,(Below.refl _ _).alloc (Nat.le_refl _) _⟩
 ·rw[yq hA.u h0]
  have h1:(((ad xs:Nat):Int)==0)=false:=beq_eq_false_iff_ne.2 (by omega)
  cases s
  all_goals
   go_enter Tryz.func102,Tryz.ntmps102
   go_wp2_with (go_at_call 106;refine(aM p n nc xs _ hA.len hA.cap hA.bnd (hA.rd.alloc _)).mono ?_;rintro e w' ⟨rfl,rfl⟩)
   go_ret
   exact⟨rfl,(Below.refl _ _).alloc (Nat.le_refl _) _⟩
theorem cc(z:Int):(z=0∧aG z=0)∨(z<0∧aG z = -1)∨(0<z∧aG z=1):=by
 rcases Int.lt_trichotomy z 0 with h|h|h
 ·exact .inr (.inl ⟨h,by rw[aG,if_neg (by omega),if_pos h]⟩)
 ·exact .inl ⟨h,by rw[aG,if_pos h]⟩
 ·exact .inr (.inr ⟨h,by rw[aG,if_neg (by omega),if_neg (by omega)]⟩)
theorem qp{a b:Int}(h:aG a≠aG b):a_ (aG a) (aG b)=a_ a b:=by
 rcases cc a with ⟨h1,h2⟩|⟨h1,h2⟩|⟨h1,h2⟩<;>rcases cc b with ⟨h3,h4⟩|⟨h3,h4⟩|⟨h3,h4⟩<;>rw[h2,h4] at h ⊢ <;>
  first
   |exact absurd rfl h
   |(rw[bC (by omega),bC (by omega)])
   |(rw[cr (by omega),cr (by omega)])
def mid(Z:List Int)(o:Nat)(R:List Int):List Int:=Z.take o++R++Z.drop (o+R.length)
theorem gX(Z R:List Int)(o:Nat)(h:o+R.length≤Z.length):(mid Z o R).length=Z.length:=oE Z R o h
theorem Dc(Z R:List Int)(o j:Nat)(h:o+R.length≤Z.length)(hj:j<R.length):gx (mid Z o R) (o+j)=gx R j:=xl Z R o j _ (by omega) hj
theorem dn(Z R:List Int)(o j:Nat)(v:Int)(h:o+R.length≤Z.length)(hj:j<R.length):(mid Z o R).set (o+j) v=mid Z o (R.set j v):=by
 have hl:(Z.take o).length=o:=by simp;omega
 unfold mid
 rw[List.append_assoc,List.set_append_right _ _ (by omega),hl,Nat.add_sub_cancel_left,List.set_append_left _ _ hj,List.append_assoc,List.length_set]
theorem ku(Z:List Int)(o n:Nat)(h:o+n≤Z.length):mid Z o ((Z.drop o).take n)=Z:=by
 unfold mid
 rw[cN Z o n h,List.append_assoc]
 have:(Z.drop o).take n++Z.drop (o+n)=Z.drop o:=by
  rw[←List.drop_drop];exact List.take_append_drop n (Z.drop o)
 rw[this,List.take_append_drop]
theorem Aq(Z R:List Int)(h:R.length=Z.length):mid Z 0 R=R:=by simp[mid,h]
theorem eZ(R:List Int)(j:Nat)(v:Int)(h:j<R.length):val (R.set j v)=val R+pw j*(v-gx R j):=by
 have e1:=oR R j h
 have e2:=oR (R.set j v) j (by simpa using h)
 rw[List.take_set_of_le (Nat.le_refl _),List.drop_set_of_lt (by omega),bt R j v h] at e2
 rw[e2,e1,Int.mul_sub]
 omega
theorem cH{R:List Int}(h:U32 R)(j:Nat){v:Int}(hv:0≤v∧v<4294967296):U32 (R.set j v):=fun k=>by
 by_cases hk:j=k
 ·subst hk
  by_cases hl:j<R.length
  ·rw[bt R j v hl];exact hv
  ·rw[aJ _ _ (Nat.le_refl _) j (by simp;omega)];decide
 ·rw[bI R j k v hk];exact h k
theorem Row.fR{w:World}{g:Nat}{e:TypeId}{k:IntKind}{Z R:List Int}{o:Nat}(hr:Row w g e k (mid Z o R))(h:o+R.length≤Z.length)(j:Nat)(hj:j<R.length):w.cell? ⟨g,o+j,none⟩=some (.int k (gx R j)):=by
 have:=hr.cell (o+j) (by rw[gX Z R o h];omega)
 rwa [Dc Z R o j h hj] at this
theorem Row.dn{w:World}{g:Nat}{e:TypeId}{k:IntKind}{Z R:List Int}{o:Nat}(hr:Row w g e k (mid Z o R))(h:o+R.length≤Z.length)(j:Nat)(hj:j<R.length)(v:Int):Row (w.setCell ⟨g,o+j,none⟩ (.int k v)) g e k (mid Z o (R.set j v)):=by
 have:=hr.set (o+j) v
 rwa [Proofs.YtfnkomoickanfaaGreatDoor.dn Z R o j v h hj] at this
theorem sI{v x:Int}(h1:0≤v∧v<4294967296)(h2:0≤x∧x<4294967296):0≤v*x∧v*x≤18446744065119617025:=by
 refine⟨Int.mul_nonneg h1.1 h2.1,?_⟩
 have a1:v*x≤v*4294967295:=Int.mul_le_mul_of_nonneg_left (by omega) h1.1
 omega
theorem jT(r x:Int)(h1:0≤r)(h2:r<4294967296)(h3:0≤x)(h4:x<4294967296):bits .or .u64 (r*4294967296) x=r*4294967296+x:=
 bits_join .u64 64 (by decide) (fun n a b=>by rw[IntKind.wrap_u64];omega) 32 (r*4294967296) x (by omega) (by omega) (by omega) h3 (by omega) (by omega)
theorem drop_cons(l:List Int)(j:Nat)(h:j<l.length):l.drop j=gx l j::l.drop (j+1):=by rw[bX l j h];exact List.drop_eq_getElem_cons h
theorem ph(l:List Int)(n j:Nat)(v:Int)(hj:j<n)(h:n≤l.length):((l.set j v).take n).drop j=v::(l.take n).drop (j+1):=by
 rw[drop_cons _ j (by simp;omega),bQ _ _ _ hj,bt l j v (by omega)]
 congr 1
 rw[List.take_set,List.drop_set_of_lt (by omega)]
theorem Dt{r x d:Int}(h1:0≤r)(h2:r<d)(h3:0≤x)(h4:x<4294967296):0≤(r*4294967296+x)/d∧(r*4294967296+x)/d<4294967296:=by
 refine⟨Int.ediv_nonneg (by omega) (by omega),?_⟩
 apply Int.ediv_lt_of_lt_mul (by omega)
 omega
theorem yL(a b:Int)(h1:0≤a)(h2:a<18446744073709551616)(h3:0≤b)(h4:b<18446744073709551616):bits .or .u64 a b=bits .or .u64 b a:=by
 obtain⟨x,rfl⟩:=Int.eq_ofNat_of_zero_le h1
 obtain⟨y,rfl⟩:=Int.eq_ofNat_of_zero_le h3
 have hk:∀n:Int,0≤n→n<2^64→IntKind.u64.wrap n=n:=fun n a b=>by rw[IntKind.wrap_u64];omega
 rw[(bits_nat .u64 64 (by decide) hk x y (by omega) (by omega)).2,(bits_nat .u64 64 (by decide) hk y x (by omega) (by omega)).2,Nat.or_comm]
theorem Az(r x:Int)(h1:0≤r)(h2:r<4294967296)(h3:0≤x)(h4:x<4294967296):bits .or .u64 x (r*4294967296)=r*4294967296+x:=by
 rw[yL _ _ h3 (by omega) (by omega) (by omega),jT r x h1 h2 h3 h4]
theorem ji(m:Int)(h0:0≤m)(h1:m<18446744073709551616):U32 [m%4294967296,m/4294967296]:=bh (dt (by omega)) (dt (by omega))
theorem jj(m:Int):val [m%4294967296,m/4294967296]=m:=by simp only[val];omega
theorem xK(z:Int)(w:World)(h0:-9223372036854775808≤z)(h1:z≤9223372036854775807):
  Calls Tryz.prog 64 #[.int .i64 z] w fun e w'=>∃s' p' n' zs,e=.returned (.agg #[.bool s',.slice p' n' n'])∧NI w.heap.size w' s' p' n' zs z∧n'≤2∧Below w.heap.size w w':=by
 by_cases hn:z<0
 ·have HL:ad [(-(z+1)+1)%4294967296,(-(z+1)+1)/4294967296]≤2:=ao _
  go_enter Tryz.func64,Tryz.ntmps64
  go_wp2_with fail
  refine(jh (-(z+1)+1) _ (by omega) (by omega)).mono ?_
  rintro e w' ⟨rfl,rfl⟩
  go_wp2_with fail
  refine(bH true (some ⟨w.heap.size+1,0,none⟩) 2 2 [(-(z+1)+1)%4294967296,(-(z+1)+1)/4294967296] _ rfl (Nat.le_refl _) (by unfold maxLen;decide) (Row.lG w _ _ _ _).aQ).mono ?_
  rintro e w1 ⟨rfl,hb⟩
  obtain⟨c0,c1,f0,f1⟩:=bM (r:=w.heap.size) (u:=.bool false) (v:=.slice none 0 0) hb (by simp[go_sem,World.cell?_alloc_past]) (by simp[go_sem,World.cell?_alloc_past]) (by simp[go_sem]) (by simp[go_sem])
  have hU:=ji (-(z+1)+1) (by omega) (by omega)
  have hV:ak true [(-(z+1)+1)%4294967296,(-(z+1)+1)/4294967296]=z:=by simp only[ak,jj,if_true,if_false,Bool.false_eq_true]<;>omega
  generalize [(-(z+1)+1)%4294967296,(-(z+1)+1)/4294967296]=ys at *
  have hN:=cA (B:=w.heap.size+1) (q:=some ⟨w.heap.size+1,0,none⟩) true (Row.lG w (.cells #[.bool false,.slice none 0 0] 24) 132 .u32 ys).aQ hU (aL (Nat.le_refl _)) ((Row.lG w (.cells #[.bool false,.slice none 0 0] 24) 132 .u32 ys).fz 0)
  rw[hV] at hN
  have hN2:=hN.below hb
  have ht:ad ys≤2:=HL
  go_wp2
  refine bodyPost_ret (v:=.agg #[.bool (nsg true ys),.slice (nad (some ⟨w.heap.size+1,0,none⟩) ys) (ad ys) (ad ys)]) (by simp[results,Tryz.results64,go_sem,c0,c1]) rfl ⟨_,_,_,tr ys,rfl,?_,ht,?_⟩
  ·exact((hN2.set (by simp) _).set (by simp) _).mono (by omega)
  ·exact(((((Below.refl _ _).alloc (Nat.le_refl _) _).alloc (by simp) _).trans (hb.mono (by simp;omega))).setCell (by simp) _).setCell (by simp) _
 ·have HL:ad [z%4294967296,z/4294967296]≤2:=ao _
  go_enter Tryz.func64,Tryz.ntmps64
  go_wp2_with fail
  refine(jh (z) _ (by omega) (by omega)).mono ?_
  rintro e w' ⟨rfl,rfl⟩
  go_wp2_with fail
  refine(bH false (some ⟨w.heap.size+1,0,none⟩) 2 2 [(z)%4294967296,(z)/4294967296] _ rfl (Nat.le_refl _) (by unfold maxLen;decide) (Row.lG w _ _ _ _).aQ).mono ?_
  rintro e w1 ⟨rfl,hb⟩
  obtain⟨c0,c1,f0,f1⟩:=bM (r:=w.heap.size) (u:=.bool false) (v:=.slice none 0 0) hb (by simp[go_sem,World.cell?_alloc_past]) (by simp[go_sem,World.cell?_alloc_past]) (by simp[go_sem]) (by simp[go_sem])
  have hU:=ji (z) (by omega) (by omega)
  have hV:ak false [(z)%4294967296,(z)/4294967296]=z:=by simp only[ak,jj,if_true,if_false,Bool.false_eq_true]<;>omega
  generalize [(z)%4294967296,(z)/4294967296]=ys at *
  have hN:=cA (B:=w.heap.size+1) (q:=some ⟨w.heap.size+1,0,none⟩) false (Row.lG w (.cells #[.bool false,.slice none 0 0] 24) 132 .u32 ys).aQ hU (aL (Nat.le_refl _)) ((Row.lG w (.cells #[.bool false,.slice none 0 0] 24) 132 .u32 ys).fz 0)
  rw[hV] at hN
  have hN2:=hN.below hb
  have ht:ad ys≤2:=HL
  go_wp2
  refine bodyPost_ret (v:=.agg #[.bool (nsg false ys),.slice (nad (some ⟨w.heap.size+1,0,none⟩) ys) (ad ys) (ad ys)]) (by simp[results,Tryz.results64,go_sem,c0,c1]) rfl ⟨_,_,_,tr ys,rfl,?_,ht,?_⟩
  ·exact((hN2.set (by simp) _).set (by simp) _).mono (by omega)
  ·exact(((((Below.refl _ _).alloc (Nat.le_refl _) _).alloc (by simp) _).trans (hb.mono (by simp;omega))).setCell (by simp) _).setCell (by simp) _
theorem mW(g cap:Nat)(n:Nat)(Z:List Int)(d:Int)(w:World)(hz:n≤Z.length)(hn:n≤cap)(hcap:cap≤1099511627776)(hR:Row w g 132 .u32 Z)(hU:U32 Z)(hd:0<d)(hd':d<4294967296):
  Calls Tryz.prog 141 #[.slice (some ⟨g,0,none⟩) n cap,.int .u32 d] w fun e w'=>∃R r,e=.returned (.int .u32 r)∧R.length=Z.length∧U32 R∧0≤r∧r<d∧val (R.take n)*d+r=val (Z.take n)∧Row w' g 132 .u32 R∧w.grownBy w' (some g):=by
 go_enter Tryz.func141,Tryz.ntmps141
 go_wp2
 go_loopw [5,6] (fun rv iv wr=>∃(k:Nat) (r:Int) (R:List Int),k≤n∧iv=.int .i64 ((k:Int)-1)∧rv=.int .u64 r∧0≤r∧r<d∧Hid (R.length=Z.length∧U32 R∧(∀j,j<k→gx R j=gx Z j)∧val ((R.take n).drop k)*d+r=val ((Z.take n).drop k)∧Row wr g 132 .u32 R∧w.grownBy wr (some g)))
  (fun _ iv _=>(intOf iv+1).toNat)
 case atStart=>exact⟨n,0,Z,Nat.le_refl _,by go_num,rfl,by decide,hd,rfl,hU,fun _ _=>rfl,by rw[List.drop_of_length_le (by simp;omega)];simp[val],hR,cz _ _⟩
 case round=>
  obtain⟨k,r,R,hk,rfl,rfl,hr0,hr1,H⟩:=hrel
  by_cases h0:k=0
  ·subst h0
   go_wp2
   go_ret
   obtain⟨a1,a2,a3,a4,a5,a6⟩:=H.out
   rw[List.drop_zero,List.drop_zero] at a4
   exact⟨R,r,rfl,a1,a2,hr0,hr1,a4,a5,a6⟩
  ·obtain⟨j,rfl⟩:∃j,k=j+1:=⟨k-1,by omega⟩
   have ej:((j+1:Nat):Int)-1=(j:Int):=by omega
   rw[ej]
   clear ej
   obtain⟨a1,a2,a3,a4,a5,a6⟩:=H.out
   have hc:=a5.cell j (by omega)
   have hf:=a5.frozen j
   obtain⟨b0,b1⟩:=a2 j
   have ho:=jT r (gx R j) hr0 (by omega) b0 b1
   obtain⟨q0,q1⟩:=Dt hr0 hr1 b0 b1
   have hdz:(d==0)=false:=beq_eq_false_iff_ne.2 (by omega)
   clear a1 a2 a3 a4 a5 a6
   go_wp2
   go_region
   all_goals go_wp2
   obtain⟨a1,a2,a3,a4,a5,a6⟩:=H.out
   refine⟨⟨j,_,R.set j ((r*4294967296+gx R j)/d),by omega,rfl,rfl,Int.emod_nonneg _ (by omega),Int.emod_lt_of_pos _ hd,by rw[List.length_set];exact a1,cH a2 _ ⟨q0,q1⟩,fun k hk=>?_,?_,(a5.set j _).drew,lz (aF a6 _ _)⟩,by simp[intOf]⟩
   ·rw[bI R _ _ _ (by omega)];exact a3 k (by omega)
   ·rw[ph R n j _ (by omega) (by omega),drop_cons (Z.take n) j (by simp;omega),bQ Z n j (by omega)]
    simp only[val]
    rw[←a4,←a3 j (by omega)]
    have e:=Int.emod_add_mul_ediv (r*4294967296+gx R j) d
    rw[Int.mul_comm d] at e
    rw[Int.add_mul,Int.mul_add,Int.mul_assoc]
    omega
theorem ks(p:Option Addr)(n nc:Nat)(xs:List Int)(w:World)(hl:xs.length=n)(hn:n≤2)(hX:Rd w p .u32 xs)(hU:U32 xs):
  Calls Tryz.prog 171 #[.slice p n nc] w fun e w'=>e=.returned (.int .u64 (val xs))∧w=w':=by
 go_enter Tryz.func171,Tryz.ntmps171
 go_wp2
 go_loop [3,8] (fun mv iv=>∃(k:Nat) (v:Int),k≤n∧iv=.int .i64 k∧mv=.int .u64 v∧Hid (v=val (xs.take k))) (fun _ iv=>n-(intOf iv).toNat)
 case atStart=>exact⟨0,0,Nat.zero_le _,rfl,rfl,by simp[val,Hid]⟩
 case round=>
  obtain⟨k,v,hk,rfl,rfl,HV⟩:=hrel
  by_cases hlt:k<n
  ·obtain⟨b,off,rfl,hcell⟩:=hX (by omega)
   have hc:=hcell k (by omega)
   obtain⟨b0,b1⟩:=hU k
   clear hcell
   have hk01:k=0∨k=1:=by omega
   rcases hk01 with rfl|rfl
   ·have hv:v=0:=by have:=HV.out;simpa [val] using this
    subst hv
    have ho:bits .or .u64 0 (gx xs 0)=gx xs 0:=by simpa using jT 0 (gx xs 0) (by decide) (by decide) b0 b1
    rw[Nat.add_zero] at hc
    go_wp2
    refine⟨⟨1,_,by omega,rfl,rfl,?_⟩,by simp[intOf];omega⟩
    show _=_
    rw[ax xs 0 (by omega)]
    simp[val,fV]
   ·have hv:v=gx xs 0:=by
     have:=HV.out
     rw[ax xs 0 (by omega)] at this
     simpa [val,fV] using this
    subst hv
    obtain⟨d0,d1⟩:=hU 0
    have ho:=Az (gx xs 1) (gx xs 0) b0 b1 d0 d1
    go_wp2
    refine⟨⟨2,_,by omega,rfl,rfl,?_⟩,by simp[intOf];omega⟩
    show _=_
    rw[ax xs 1 (by omega),ax xs 0 (by omega)]
    simp only[List.take_zero,val,aP,fV]
    omega
  ·have:k=n:=by omega
   subst this
   go_wp2
   go_ret
   have:=HV.out
   rw[List.take_of_length_le (by omega)] at this
   rw[this]
   exact⟨rfl,rfl⟩
structure QR(B:Nat)(w:World)(qa:Option Addr)(qn:Nat)(qs:List Int)(ra:Option Addr)(rn:Nat)(rs:List Int)(x y:Int)(n:Nat):Prop where
 ql:qs.length=qn
 qrd:Rd w qa .u32 qs
 qu:U32 qs
 qf:az B qa
 rl:rs.length=rn
 rrd:Rd w ra .u32 rs
 ru:U32 rs
 rf:az B ra
 eq:val qs*y+val rs=x
 lt:val rs<y
 qb:qn≤n+1
 rb:rn≤n+1
 row:∃g Z,ra=some ⟨g,0,none⟩∧Row w g 132 .u32 Z∧Z.take rn=rs∧U32 Z
 qz:Fz w qa
 rz:Fz w ra
theorem ue(p q:Option Addr)(n nc m mc:Nat)(xs ys:List Int)(w:World)(hA:AI w p n nc xs)(hB:AI w q m mc ys)(hlt:val xs<val ys):
  Calls Tryz.prog 107 #[.slice p n nc,.slice q m mc] w fun e w'=>∃qa qn qs ra rn rs,e=.returned (.tuple #[.slice qa qn qn,.slice ra rn rn])∧QR w.heap.size w' qa qn qs ra rn rs (val xs) (val ys) n∧Below w.heap.size w w':=by
 have hs:=hA.sml
 go_enter Tryz.func107,Tryz.ntmps107
 go_wp2_with fail
 refine(dA p q n nc m mc xs ys _ hA.len hB.len hA.cap hA.bnd hB.cap hB.bnd hA.rd hA.u hB.rd hB.u).mono ?_
 rw[bC hlt]
 rintro e w1 ⟨rfl,hb1⟩
 go_wp2_with fail
 refine(eO p n nc xs _ hA.len (by omega) (hA.rd.below hb1)).mono ?_
 rintro e w2 ⟨rfl,rfl⟩
 go_wp2
 go_ret2
 refine⟨none,0,[],some ⟨w1.heap.size,0,none⟩,n,xs,rfl,⟨rfl,Rd.nil,iq,c9,hA.len,(Row.new w1 _ _ _).aQ,hA.u,aL hb1.size,by simp[val],hlt,by omega,by omega,⟨w1.heap.size,xs,rfl,Row.new w1 _ _ _,List.take_of_length_le (by rw[hA.len];omega),hA.u⟩,Fz.nil _,(Row.new w1 _ _ _).fz 0⟩,hb1.alloc hb1.size _⟩
theorem sZ(p q:Option Addr)(n nc mc:Nat)(xs:List Int)(d:Int)(w:World)(hA:AI w p n nc xs)(hB:AI w q 1 mc [d])(hd:0<d)(hle:d≤val xs):
  Calls Tryz.prog 107 #[.slice p n nc,.slice q 1 mc] w fun e w'=>∃qa qn qs ra rn rs,e=.returned (.tuple #[.slice qa qn qn,.slice ra rn rn])∧QR w.heap.size w' qa qn qs ra rn rs (val xs) (val [d]) n∧Below w.heap.size w w':=by
 have hs:=hA.sml
 have hd':d<4294967296:=by have:=hB.u 0;rw[bZ] at this;omega
 have hic:¬a_ (val xs) (val [d])<0:=by
  rw[val_one,a_,if_neg (by omega)];split<;>decide
 go_enter Tryz.func107,Tryz.ntmps107
 go_wp2_with fail
 refine(dA p q n nc 1 mc xs [d] _ hA.len hB.len hA.cap hA.bnd hB.cap hB.bnd hA.rd hA.u hB.rd hB.u).mono ?_
 rintro e w1 ⟨rfl,hb1⟩
 go_wp2_with fail
 refine(eO p n nc xs _ hA.len (by omega) (hA.rd.below hb1)).mono ?_
 rintro e w2 ⟨rfl,rfl⟩
 obtain⟨b,off,hq,hc⟩:=((hB.rd.below hb1).alloc (.cells (ca .u32 xs) 132)) (by simp)
 have hc0:=hc 0 (by simp)
 rw[bZ,Nat.add_zero] at hc0
 subst hq
 clear hc
 go_wp2_with fail
 refine(mW w1.heap.size n n xs d _ (by rw[hA.len];omega) (Nat.le_refl _) (by omega) (Row.new w1 _ _ _) hA.u hd hd').mono ?_
 rintro e w3 ⟨R,r,rfl,r1,r2,r3,r4,r5,r6,r7⟩
 go_wp2
 go_ret2
 have hl:=hA.len
 rw[List.take_of_length_le (by omega),List.take_of_length_le (by omega)] at r5
 have hb3:Below w.heap.size w w3:=dz (hb1.alloc hb1.size _) r7 (by simp;have:=hb1.size;omega) hb1.size
 refine⟨some ⟨w1.heap.size,0,none⟩,n,R,some ⟨w3.heap.size,0,none⟩,1,[r],rfl,⟨by omega,r6.aQ.alloc _,r2,aL hb1.size,rfl,(Row.new w3 132 .u32 [r]).aQ,dt (by omega),aL hb3.size,by rw[val_one,val_one];exact r5,by rw[val_one,val_one];exact r4,by omega,by omega,⟨w3.heap.size,[r],rfl,Row.new w3 132 .u32 [r],rfl,dt (by omega)⟩,(r6.alloc _).fz 0,(Row.new w3 132 .u32 [r]).fz 0⟩,hb3.alloc hb3.size _⟩
structure vQ(w W:World)(a0 a1 b0 b1:Value):Prop where
 size:w.heap.size+1+1+1+1≤W.heap.size
 below:Below w.heap.size w W
 ca0:W.cell? ⟨w.heap.size,0,none⟩=some a0
 ca1:W.cell? ⟨w.heap.size,1,none⟩=some a1
 cb0:W.cell? ⟨w.heap.size+1,0,none⟩=some b0
 cb1:W.cell? ⟨w.heap.size+1,1,none⟩=some b1
 cr0:W.cell? ⟨w.heap.size+1+1,0,none⟩=some (.bool false)
 cr1:W.cell? ⟨w.heap.size+1+1,1,none⟩=some (.slice none 0 0)
 cs0:W.cell? ⟨w.heap.size+1+1+1,0,none⟩=some (.bool false)
 cs1:W.cell? ⟨w.heap.size+1+1+1,1,none⟩=some (.slice none 0 0)
 fr0:W.frozen? ⟨w.heap.size+1+1,0,none⟩=false
 fr1:W.frozen? ⟨w.heap.size+1+1,1,none⟩=false
 fs0:W.frozen? ⟨w.heap.size+1+1+1,0,none⟩=false
 fs1:W.frozen? ⟨w.heap.size+1+1+1,1,none⟩=false
structure Bx(w:World)(r:Nat)(a0 a1:Value):Prop where
 c0:w.cell? ⟨r,0,none⟩=some a0
 c1:w.cell? ⟨r,1,none⟩=some a1
 f0:w.frozen? ⟨r,0,none⟩=false
 f1:w.frozen? ⟨r,1,none⟩=false
theorem Bx.later{w w':World}{r:Nat}{a0 a1:Value}(h:Bx w r a0 a1)(hb:Below w.heap.size w w'):Bx w' r a0 a1:=by
 obtain⟨a,b,c,d⟩:=bM hb h.c0 h.c1 h.f0 h.f1
 exact⟨a,b,c,d⟩
theorem Bx.alloc{w:World}{r:Nat}{a0 a1:Value}(h:Bx w r a0 a1)(o:Obj):Bx (w.alloc o) r a0 a1:=h.later ((Below.refl _ _).alloc (Nat.le_refl _) o)
theorem Bx.drewN{w:World}{r:Nat}{a0 a1:Value}(h:Bx w r a0 a1)(k:Nat):Bx (w.drewN k) r a0 a1:=⟨h.c0,h.c1,h.f0,h.f1⟩
theorem Bx.new{w:World}{r:Nat}(a0 a1:Value)(t:Nat)(hr:r=w.heap.size):Bx (w.alloc (.cells #[a0,a1] t)) r a0 a1:=by
 subst hr
 refine⟨?_,?_,?_,?_⟩<;>simp[go_sem]
theorem C1(w:World)(a0 a1 b0 b1:Value)(t k:Nat):vQ w (((((w.alloc (.cells #[a0,a1] t)).alloc (.cells #[b0,b1] t)).alloc (.cells #[.bool false,.slice none 0 0] t)).alloc (.cells #[.bool false,.slice none 0 0] t)).drewN k) a0 a1 b0 b1:=by
 have h1:=((((Bx.new (w:=w) a0 a1 t rfl).alloc (.cells #[b0,b1] t)).alloc (.cells #[.bool false,.slice none 0 0] t)).alloc (.cells #[.bool false,.slice none 0 0] t)).drewN k
 have h2:=(((Bx.new (w:=w.alloc (.cells #[a0,a1] t)) b0 b1 t (r:=w.heap.size+1) (World.size_alloc ..).symm).alloc (.cells #[.bool false,.slice none 0 0] t)).alloc (.cells #[.bool false,.slice none 0 0] t)).drewN k
 have h3:=((Bx.new (w:=(w.alloc (.cells #[a0,a1] t)).alloc (.cells #[b0,b1] t)) (.bool false) (.slice none 0 0) t (r:=w.heap.size+1+1) (by rw[World.size_alloc,World.size_alloc])).alloc (.cells #[.bool false,.slice none 0 0] t)).drewN k
 have h4:=(Bx.new (w:=((w.alloc (.cells #[a0,a1] t)).alloc (.cells #[b0,b1] t)).alloc (.cells #[.bool false,.slice none 0 0] t)) (.bool false) (.slice none 0 0) t (r:=w.heap.size+1+1+1) (by rw[World.size_alloc,World.size_alloc,World.size_alloc])).drewN k
 exact⟨by simp,below_drewN (((((Below.refl _ _).alloc (Nat.le_refl _) _).alloc (by simp) _).alloc (by simp;omega) _).alloc (by simp;omega) _) k,h1.c0,h1.c1,h2.c0,h2.c1,h3.c0,h3.c1,h4.c0,h4.c1,h3.f0,h3.f1,h4.f0,h4.f1⟩
theorem vQ.later{w W W':World}{a0 a1 b0 b1:Value}(h:vQ w W a0 a1 b0 b1)(hb:Below W.heap.size W W'):vQ w W' a0 a1 b0 b1:=by
 obtain⟨c0,c1,f0,f1⟩:=bM hb h.cr0 h.cr1 h.fr0 h.fr1
 obtain⟨d0,d1,g0,g1⟩:=bM hb h.cs0 h.cs1 h.fs0 h.fs1
 exact⟨Nat.le_trans h.size hb.size,h.below.trans (hb.mono (by have:=h.size;omega)),cell_later hb h.ca0,cell_later hb h.ca1,cell_later hb h.cb0,cell_later hb h.cb1,c0,c1,d0,d1,f0,f1,g0,g1⟩
theorem Bd{W w1:World}(hb:Below W.heap.size W w1):(∀b o,b<W.heap.size→w1.cell? ⟨b,o,none⟩=W.cell? ⟨b,o,none⟩)∧(∀b o,b<W.heap.size→w1.frozen? ⟨b,o,none⟩=W.frozen? ⟨b,o,none⟩):=
 ⟨fun b o h=>hb.cell (p:=⟨b,o,none⟩) h,fun b o h=>hb.frozen (p:=⟨b,o,none⟩) h⟩
theorem rN{X w3:World}(hb:Below X.heap.size X w3):(∀b o,b<X.heap.size→w3.cell? ⟨b,o,none⟩=X.cell? ⟨b,o,none⟩)∧(∀b o,b<X.heap.size→w3.frozen? ⟨b,o,none⟩=X.frozen? ⟨b,o,none⟩)∧
  (∀r,r<X.heap.size→r<w3.heap.size)∧(∀r,r<X.heap.size→r≤w3.heap.size)∧(∀r,r<X.heap.size→r≤w3.heap.size+1):=
 ⟨(Bd hb).1,(Bd hb).2,fun r h=>Nat.lt_of_lt_of_le h hb.size,fun r h=>Nat.le_of_lt (Nat.lt_of_lt_of_le h hb.size),fun r h=>by have:=hb.size;omega⟩
theorem bne{X w3:World}(hb:Below X.heap.size X w3):(∀r,r<X.heap.size→r≠w3.heap.size)∧(∀r,r<X.heap.size→w3.heap.size≠r)∧(∀r,r<X.heap.size→r≠w3.heap.size+1)∧(∀r,r<X.heap.size→w3.heap.size+1≠r):=by
 have:=hb.size
 exact⟨fun r h=>by omega,fun r h=>by omega,fun r h=>by omega,fun r h=>by omega⟩
theorem af{w x:World}{o:Obj}(h:Below w.heap.size w x):Below w.heap.size w (x.alloc o):=h.alloc h.size o
theorem comp{X2 w2 X3 w3:World}(h2:Below X2.heap.size X2 w2)(hX:Below w2.heap.size w2 X3)(h3:Below X3.heap.size X3 w3):Below X2.heap.size X2 w3:=
 (h2.trans (hX.mono h2.size)).trans (h3.mono (Nat.le_trans h2.size hX.size))
theorem nO{B:Nat}{w:World}{s:Bool}{p:Option Addr}{n:Nat}{xs:List Int}{z:Int}{o:Obj}(h:NI B w s p n xs z):NI B (w.alloc o) s p n xs z:=h.below ((Below.refl _ _).alloc (Nat.le_refl _) o)
theorem vR{w:World}{r:Nat}{u v:Value}{o:Obj}(h:Bx w r u v):Bx (w.alloc o) r u v:=h.alloc o
theorem xD{w:World}{r t:Nat}{u v:Value}(h:r=w.heap.size):Bx (w.alloc (.cells #[u,v] t)) r u v:=Bx.new u v t h
theorem dI{w:World}{g:Nat}{u v x y:Value}(h:Bx w g u v):Bx ((w.setCell ⟨g,0,none⟩ x).setCell ⟨g,1,none⟩ y) g x y:=by
 have h1:(w.setCell ⟨g,0,none⟩ x).cell? ⟨g,1,none⟩=some v:=by rw[World.cell?_setCell_other _ _ _ _ (by simp)];exact h.c1
 refine⟨?_,World.cell?_setCell_same _ _ _ h1,?_,?_⟩
 ·rw[World.cell?_setCell_other _ _ _ _ (by simp)];exact World.cell?_setCell_same _ _ _ h.c0
 ·rw[World.frozen?_setCell,World.frozen?_setCell];exact h.f0
 ·rw[World.frozen?_setCell,World.frozen?_setCell];exact h.f1
theorem cS{w:World}{r g:Nat}{u v x y:Value}(h:Bx w r u v)(hne:r≠g):Bx ((w.setCell ⟨g,0,none⟩ x).setCell ⟨g,1,none⟩ y) r u v:=by
 have e:((w.setCell ⟨g,0,none⟩ x).setCell ⟨g,1,none⟩ y).heap[r]?=w.heap[r]?:=(heap_setCell_other _ _ r y hne).trans (heap_setCell_other _ _ r x hne)
 exact⟨(World.cell?_of_block (a:=⟨r,0,none⟩) e).trans h.c0,(World.cell?_of_block (a:=⟨r,1,none⟩) e).trans h.c1,(World.frozen?_of_block (a:=⟨r,0,none⟩) e).trans h.f0,(World.frozen?_of_block (a:=⟨r,1,none⟩) e).trans h.f1⟩
theorem rC{B:Nat}{w x:World}{o:Obj}(h:Below B w x)(hB:B≤w.heap.size):Below B w (x.alloc o):=h.alloc (Nat.le_trans hB h.size) o
theorem CE{B:Nat}{w x:World}{a:Addr}{v:Value}(h:Below B w x)(ha:B≤a.block):Below B w (x.setCell a v):=h.setCell ha v
end Go.Proofs.YtfnkomoickanfaaGreatDoor
