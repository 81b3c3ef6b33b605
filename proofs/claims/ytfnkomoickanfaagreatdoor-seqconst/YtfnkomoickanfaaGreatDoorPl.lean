/- Own. -/
import Derived.WalkKit
import Derived.WalkSpells
import Derived.WalkLawsBesides
import Derived.Deep.QuietTactic
import Derived.BigQuiet
import Derived.Laws.CopyOwn
import Derived.Deep.AppendLies
import Derived.Deep.RegionHeld3
import Derived.Deep.MidRow
import Derived.Deep.WholeRow
import Derived.Test.YtfnkomoickanfaaGreatDoorProg
set_option linter.unusedVariables false
set_option linter.unusedSimpArgs false
set_option maxHeartbeats 8000000
set_option maxRecDepth 100000
namespace Go.Proofs.YtfnkomoickanfaaGreatDoor
open Go.RowKit
def gx(xs:List Int)(j:Nat):Int:=xs.getD j 0
theorem lB(j:Nat):gx [] j=0:=by simp[gx]
theorem cZ(x:Int)(r:List Int)(j:Nat):gx (x::r) (j+1)=gx r j:=by simp[gx]
theorem bZ(x:Int)(r:List Int):gx (x::r) 0=x:=by simp[gx]
def ad:List Int→Nat
 | []=>0
 |x::r=>if ad r=0 then (if x=0 then 0 else 1) else ad r+1
theorem ao(xs:List Int):ad xs≤xs.length:=by
 induction xs with
 |nil=>simp[ad]
 |cons x r ih=>simp only[ad,List.length_cons];split<;>(try split)<;>omega
theorem dT(xs:List Int):∀j,ad xs≤j→gx xs j=0:=by
 induction xs with
 |nil=>intro j _;exact lB j
 |cons x r ih=>
  intro j hj
  simp only[ad] at hj
  cases j with
  |zero=>
   rw[bZ]
   split at hj
   ·split at hj
    ·assumption
    ·omega
   ·omega
  |succ j=>
   rw[cZ]
   apply ih
   split at hj
   ·omega
   ·omega
theorem cd(xs:List Int)(h:0<ad xs):gx xs (ad xs-1)≠0:=by
 induction xs with
 |nil=>simp[ad] at h
 |cons x r ih=>
  simp only[ad] at h ⊢
  split
  ·split
   ·rename_i h1 h2;simp[h1,h2] at h
   ·rw[bZ];assumption
  ·rename_i h1
   have e:ad r+1-1=(ad r-1)+1:=by omega
   rw[e,cZ]
   exact ih (by omega)
theorem cP(xs:List Int)(n:Nat)(h2:∀j,n≤j→gx xs j=0)(h3:n=0∨gx xs (n-1)≠0):ad xs=n:=by
 rcases Nat.lt_trichotomy (ad xs) n with h|h|h
 ·rcases h3 with h3|h3
  ·omega
  ·exact absurd (dT xs (n-1) (by omega)) h3
 ·exact h
 ·exact absurd (h2 (ad xs-1) (by omega)) (cd xs (by omega))
theorem aJ(xs:List Int)(n:Nat)(h:xs.length≤n):∀j,n≤j→gx xs j=0:=fun j hj=>by
 rw[gx,List.getD_eq_getElem?_getD,List.getElem?_eq_none (by omega)];rfl
def val:List Int→Int
 | []=>0
 |x::r=>x+4294967296*val r
def U32(xs:List Int):Prop:=∀j,0≤gx xs j∧gx xs j<4294967296
def pw(k:Nat):Int:=4294967296^k
theorem fV:pw 0=1:=rfl
theorem aP(k:Nat):pw (k+1)=4294967296*pw k:=by unfold pw;rw[Int.pow_succ,Int.mul_comm]
theorem aU(k:Nat):0<pw k:=Int.pow_pos (by decide)
theorem gI(a b:Nat):pw (a+b)=pw a*pw b:=Int.pow_add ..
theorem cO(a b:List Int)(j:Nat)(h:j<a.length):gx (a++b) j=gx a j:=by
 simp[gx,List.getElem?_append_left h]
theorem b_(a b:List Int)(j:Nat)(h:a.length≤j):gx (a++b) j=gx b (j-a.length):=by
 simp[gx,List.getElem?_append_right h]
theorem bX(xs:List Int)(j:Nat)(h:j<xs.length):gx xs j=xs[j]:=by simp[gx,h]
theorem bQ(xs:List Int)(k j:Nat)(h:j<k):gx (xs.take k) j=gx xs j:=by simp[gx,h]
theorem aY(xs:List Int)(k j:Nat):gx (xs.drop k) j=gx xs (k+j):=by simp[gx,List.getElem?_drop]
theorem bt(xs:List Int)(j:Nat)(v:Int)(h:j<xs.length):gx (xs.set j v) j=v:=by simp[gx,h]
theorem bI(xs:List Int)(j k:Nat)(v:Int)(h:j≠k):gx (xs.set j v) k=gx xs k:=by simp[gx,List.getElem?_set_ne h]
theorem lA(a b:List Int)(hl:a.length=b.length)(h:∀j,j<a.length→gx a j=gx b j):a=b:=by
 apply List.ext_getElem hl
 intro j h1 h2
 have:=h j h1
 rwa [bX a j h1,bX b j h2] at this
theorem bj(a b:List Int):val (a++b)=val a+pw a.length*val b:=by
 induction a with
 |nil=>simp[val,fV]
 |cons x r ih=>
  simp only[List.cons_append,val,List.length_cons,aP,ih,Int.mul_add,Int.mul_assoc]
  omega
theorem val_one(x:Int):val [x]=x:=by simp[val]
theorem lV(xs:List Int)(k:Nat)(h:k<xs.length):xs.take (k+1)=xs.take k++[gx xs k]:=by
 rw[List.take_succ_eq_append_getElem h,bX xs k h]
theorem ax(xs:List Int)(k:Nat)(h:k<xs.length):val (xs.take (k+1))=val (xs.take k)+pw k*gx xs k:=by
 rw[lV xs k h,bj,val_one,List.length_take,Nat.min_eq_left (by omega)]
theorem iq:U32 []:=fun j=>by rw[lB];decide
theorem aj{xs:List Int}(h:U32 xs)(k:Nat):U32 (xs.take k):=fun j=>by
 by_cases hj:j<k
 ·rw[bQ xs k j hj];exact h j
 ·rw[aJ (xs.take k) k (by simp;omega) j (by omega)];decide
theorem dh{xs:List Int}(h:U32 xs)(k:Nat):U32 (xs.drop k):=fun j=>by rw[aY];exact h _
theorem bh{a b:List Int}(ha:U32 a)(hb:U32 b):U32 (a++b):=fun j=>by
 by_cases hj:j<a.length
 ·rw[cO a b j hj];exact ha j
 ·rw[b_ a b j (by omega)];exact hb _
theorem dt{x:Int}(h:0≤x∧x<4294967296):U32 [x]:=fun j=>by
 cases j with
 |zero=>rw[bZ];exact h
 |succ j=>rw[cZ,lB];decide
theorem kO{x:Int}{r:List Int}(h:U32 (x::r)):(0≤x∧x<4294967296)∧U32 r:=
 ⟨by have:=h 0;rwa [bZ] at this,fun j=>by have:=h (j+1);rwa [cZ] at this⟩
theorem aA{xs:List Int}(h:U32 xs):0≤val xs:=by
 induction xs with
 |nil=>simp[val]
 |cons x r ih=>obtain⟨h1,h2⟩:=kO h;have:=ih h2;simp only[val];omega
theorem bU{xs:List Int}(h:U32 xs):val xs<pw xs.length:=by
 induction xs with
 |nil=>simp[val,fV]
 |cons x r ih=>obtain⟨h1,h2⟩:=kO h;have:=ih h2;simp only[val,List.length_cons,aP];omega
theorem cm(xs:List Int)(k:Nat)(h:k≤xs.length):val xs=val (xs.take k)+pw k*val (xs.drop k):=by
 have:=bj (xs.take k) (xs.drop k)
 rwa [List.take_append_drop,List.length_take,Nat.min_eq_left h] at this
theorem qL(xs:List Int)(h:∀j,gx xs j=0):val xs=0:=by
 induction xs with
 |nil=>rfl
 |cons x r ih=>
  have h0:=h 0
  rw[bZ] at h0
  simp only[val,h0,ih (fun j=>by have:=h (j+1);rwa [cZ] at this)]
  decide
def tr(xs:List Int):List Int:=xs.take (ad xs)
theorem au(xs:List Int):(tr xs).length=ad xs:=by simp[tr,ao]
theorem aE(xs:List Int):val (tr xs)=val xs:=by
 rw[cm xs (ad xs) (ao xs),qL (xs.drop (ad xs)) (fun j=>by rw[aY];exact dT xs _ (by omega))]
 simp[tr]
theorem cF{xs:List Int}(h:U32 xs):U32 (tr xs):=aj h _
theorem gS(xs:List Int)(j:Nat):gx (tr xs) j=gx xs j:=by
 by_cases h:j<ad xs
 ·exact bQ xs _ j h
 ·rw[dT xs j (by omega),aJ (tr xs) _ (Nat.le_of_eq (au xs)) j (by omega)]
theorem aZ(xs:List Int):ad (tr xs)=ad xs:=
 cP _ _ (fun j hj=>by rw[gS];exact dT xs j hj) (by
  rcases Nat.eq_zero_or_pos (ad xs) with h|h
  ·exact .inl h
  ·right;rw[gS];exact cd xs h)
theorem cx{xs:List Int}(h:U32 xs)(ht:0<ad xs):pw (ad xs-1)≤val xs:=by
 have hl:=ao xs
 have e:=cm xs (ad xs-1) (by omega)
 have ht':=cd xs ht
 have h1:=aA (aj h (ad xs-1))
 have hg:=h (ad xs-1)
 have h2:1≤val (xs.drop (ad xs-1)):=by
  cases hd:xs.drop (ad xs-1) with
  |nil=>have:=congrArg List.length hd;simp at this;omega
  |cons x r=>
   have hx:gx xs (ad xs-1)=x:=by
    have:=aY xs (ad xs-1) 0
    rw[hd,bZ,Nat.add_zero] at this;exact this.symm
   have hr:U32 r:=(kO (hd ▸ dh h (ad xs-1))).2
   have:=aA hr
   simp only[val];omega
 have h3:=aU (ad xs-1)
 have h4:pw (ad xs-1)*1≤pw (ad xs-1)*val (xs.drop (ad xs-1)):=Int.mul_le_mul_of_nonneg_left h2 (by omega)
 omega
theorem bO{xs:List Int}(h:U32 xs):ad xs=0↔val xs=0:=by
 constructor
 ·intro h0
  rw[←aE,tr,h0];rfl
 ·intro h0
  rcases Nat.eq_zero_or_pos (ad xs) with ht|ht
  ·exact ht
  ·have:=cx h ht;have:=aU (ad xs-1);omega
theorem bD{a b:Nat}(h:a≤b):pw a≤pw b:=by
 obtain⟨c,rfl⟩:=Nat.exists_eq_add_of_le h
 rw[gI]
 have h1:=aU a
 have h2:=aU c
 have:pw a*1≤pw a*pw c:=Int.mul_le_mul_of_nonneg_left (by omega) (by omega)
 omega
theorem jw{xs:List Int}(h:U32 xs):val xs<pw (ad xs):=by
 have:=bU (cF h)
 rwa [aE,au] at this
theorem Cp(Z new:List Int)(o:Nat)(v:Int)(h:o+new.length<Z.length):
  (Z.take o++new++Z.drop (o+new.length)).set (o+new.length) v=Z.take o++(new++[v])++Z.drop (o+(new.length+1)):=by
 have hl:(Z.take o++new).length=o+new.length:=by simp;omega
 rw[List.set_append_right _ _ (by omega),hl,Nat.sub_self,List.drop_eq_getElem_cons h]
 simp[Nat.add_assoc]
theorem oE(Z new:List Int)(o:Nat)(h:o+new.length≤Z.length):(Z.take o++new++Z.drop (o+new.length)).length=Z.length:=by
 simp;omega
theorem DG(Z new:List Int)(o j:Nat)(h:o+new.length≤Z.length)(hj:o+new.length≤j):gx (Z.take o++new++Z.drop (o+new.length)) j=gx Z j:=by
 have hl:(Z.take o++new).length=o+new.length:=by simp;omega
 rw[b_ _ _ _ (by omega),aY,hl]
 congr 1;omega
theorem xl(Z new:List Int)(o j n:Nat)(h:o≤Z.length)(hj:j<new.length):gx (Z.take o++new++Z.drop n) (o+j)=gx new j:=by
 have hl:(Z.take o).length=o:=by simp;omega
 rw[List.append_assoc,b_ _ _ _ (by omega),hl,cO _ _ _ (by omega)]
 congr 1;omega
theorem tB(Z:List Int)(o:Nat):Z.take o++[]++Z.drop (o+([]:List Int).length)=Z:=by simp
theorem tA(Z new:List Int)(o n:Nat)(h:o+n≤Z.length)(hn:new.length≤n):
  Z.take o++new++Z.drop (o+new.length)=Z.take o++(new++((Z.drop o).take n).drop new.length)++Z.drop (o+n):=by
 rw[List.append_assoc,List.append_assoc,List.append_assoc]
 congr 2
 rw[List.drop_take,List.drop_drop]
 have e:Z.drop (o+n)=(Z.drop (o+new.length)).drop (n-new.length):=by rw[List.drop_drop];congr 1;omega
 rw[e,List.take_append_drop]
theorem cN(Z:List Int)(o n:Nat)(h:o+n≤Z.length):((Z.drop o).take n).length=n:=by simp;omega
theorem iD{Z:List Int}(h:U32 Z)(o n:Nat):U32 ((Z.drop o).take n):=aj (dh h o) n
theorem fF(P t:Int):P*(t%4294967296)+4294967296*P*(t/4294967296)=P*t:=by
 have h:=Int.emod_add_mul_ediv t 4294967296
 have e:4294967296*P*(t/4294967296)=P*(4294967296*(t/4294967296)):=by
  rw[Int.mul_comm 4294967296 P,Int.mul_assoc]
 rw[e,←Int.mul_add,h]
theorem gA(x:Int):IntKind.u64.wrap x=x%18446744073709551616:=by rw[IntKind.wrap_u64]
theorem xM(z x c:Int)(h1:0≤z)(h2:z<4294967296)(h3:0≤x)(h4:x<4294967296)(h5:0≤c)(h6:c≤1):
  IntKind.u64.wrap (IntKind.u64.wrap (z-x)-c)/9223372036854775808 = -((z-x-c)/4294967296):=by
 rw[gA,gA];omega
theorem xN(z x c:Int)(h1:0≤z)(h2:z<4294967296)(h3:0≤x)(h4:x<4294967296)(h5:0≤c)(h6:c≤1):
  IntKind.u64.wrap (IntKind.u64.wrap (z-x)-c)%4294967296=(z-x-c)%4294967296:=by
 rw[gA,gA];omega
def a_(a b:Int):Int:=if a<b then -1 else if b<a then 1 else 0
theorem bC{a b:Int}(h:a<b):a_ a b = -1:=if_pos h
theorem cr{a b:Int}(h:b<a):a_ a b=1:=by rw[a_,if_neg (by omega),if_pos h]
theorem c5(a:Int):a_ a a=0:=by rw[a_,if_neg (by omega),if_neg (by omega)]
theorem oR(a:List Int)(j:Nat)(h:j<a.length):val a=val (a.take j)+pw j*gx a j+pw (j+1)*val (a.drop (j+1)):=by
 rw[cm a (j+1) (by omega),ax a j h]
theorem qK{a b:List Int}(ha:U32 a)(hb:U32 b)(j:Nat)(h1:j<a.length)(h2:j<b.length)(hd:a.drop (j+1)=b.drop (j+1))(h:gx a j<gx b j):val a<val b:=by
 rw[oR a j h1,oR b j h2,hd]
 have l1:=bU (aj ha j)
 have l2:=aA (aj hb j)
 rw[List.length_take,Nat.min_eq_left (by omega)] at l1
 have l3:pw j*gx a j≤pw j*(gx b j-1):=Int.mul_le_mul_of_nonneg_left (by omega) (Int.le_of_lt (aU j))
 rw[Int.mul_sub,Int.mul_one] at l3
 omega
theorem kP{a b:List Int}(ha:U32 a)(hb:U32 b)(h:ad a<ad b):val a<val b:=by
 have h1:=jw ha
 have h2:=cx hb (by omega)
 have h3:pw (ad a)≤pw (ad b-1):=bD (by omega)
 omega
theorem qg{a b:List Int}(j:Nat)(h1:j<a.length)(h2:j<b.length)(hd:a.drop (j+1)=b.drop (j+1))(h:gx a j=gx b j):a.drop j=b.drop j:=by
 rw[List.drop_eq_getElem_cons h1,List.drop_eq_getElem_cons h2,hd,←bX a j h1,←bX b j h2,h]
def Rd(w:World)(p:Option Addr)(k:IntKind)(xs:List Int):Prop:=
 0<xs.length→∃b off,p=some ⟨b,off,none⟩∧∀j,j<xs.length→w.cell? ⟨b,off+j,none⟩=some (.int k (gx xs j))
def ca(k:IntKind)(xs:List Int):Array Value:=(xs.map (Value.int k)).toArray
def Row(w:World)(g:Nat)(e:TypeId)(k:IntKind)(xs:List Int):Prop:=w.heap[g]?=some (.cells (ca k xs) e (0,0))
def az(B:Nat)(p:Option Addr):Prop:=∀a,p=some a→B≤a.block
def Off(g:Nat)(p:Option Addr):Prop:=∀a,p=some a→a.block≠g
section
variable {w w':World} {g:Nat} {e:TypeId} {k:IntKind} {xs:List Int} {p:Option Addr}
theorem Row.lt(h:Row w g e k xs):g<w.heap.size:=(Array.getElem?_eq_some_iff.1 h).1
theorem Row.cell(h:Row w g e k xs)(j:Nat)(hj:j<xs.length):w.cell? ⟨g,j,none⟩=some (.int k (gx xs j)):=by
 rw[cell_of_row w g j _ e (0,0) h,bX xs j hj];simp[ca,hj]
theorem Row.frozen(h:Row w g e k xs)(j:Nat):w.frozen? ⟨g,j,none⟩=false:=frozen_of_row w g j _ e h
theorem Row.set(h:Row w g e k xs)(j:Nat)(v:Int):Row (w.setCell ⟨g,j,none⟩ (.int k v)) g e k (xs.set j v):=by
 unfold Row
 rw[heap_setCell_same w g j _ e _ h]
 simp[ca,List.map_set]
theorem Row.kept{row:Option Nat}(h:Row w g e k xs)(hg:w.grownBy w' row)(hne:some g≠row):Row w' g e k xs:=(hg.block g h.lt hne).trans h
theorem Row.below{B:Nat}(h:Row w g e k xs)(hb:Below B w w')(hg:g<B):Row w' g e k xs:=(hb.block g hg).trans h
theorem Row.drew(h:Row w g e k xs):Row w.drew g e k xs:=h
theorem Row.alloc(h:Row w g e k xs)(o:Obj):Row (w.alloc o) g e k xs:=(Below.heap_alloc w o g h.lt).trans h
theorem Row.new(w:World)(e:TypeId)(k:IntKind)(xs:List Int):Row (w.alloc (.cells (ca k xs) e)) w.heap.size e k xs:=heap_alloc_new w _
theorem Row.ah(h:Row w g e k xs)(a:Addr)(v:Value)(hne:g≠a.block):Row (w.setCell a v) g e k xs:=(heap_setCell_other w a g v hne).trans h
theorem Row.rd(h:Row w g e k xs)(o n:Nat)(hn:o+n≤xs.length):Rd w (some ⟨g,o,none⟩) k ((xs.drop o).take n):=fun _=>
 ⟨g,o,rfl,fun j hj=>by
  have hj':j<n:=by simp at hj;omega
  rw[bQ _ _ _ hj',aY]
  exact h.cell (o+j) (by omega)⟩
theorem Row.aQ(h:Row w g e k xs):Rd w (some ⟨g,0,none⟩) k xs:=fun _=>⟨g,0,rfl,fun j hj=>by rw[Nat.zero_add];exact h.cell j hj⟩
theorem Row.bS(h:Row w g e k xs)(n:Nat):Rd w (some ⟨g,0,none⟩) k (xs.take n):=fun _=>⟨g,0,rfl,fun j hj=>by
 have:j<n∧j<xs.length:=by simp at hj;omega
 rw[Nat.zero_add,bQ _ _ _ this.1];exact h.cell j this.2⟩
theorem Row.step{Z new:List Int}{o:Nat}(h:Row w g e k (Z.take o++new++Z.drop (o+new.length)))(hl:o+new.length<Z.length)(v:Int):
  Row (w.setCell ⟨g,o+new.length,none⟩ (.int k v)) g e k (Z.take o++(new++[v])++Z.drop (o+(new++[v]).length)):=by
 have:=h.set (o+new.length) v
 rw[Cp Z new o _ hl] at this
 simpa using this
theorem Row.at{Z new:List Int}{o j:Nat}(h:Row w g e k (Z.take o++new++Z.drop (o+new.length)))(hl:o+new.length≤Z.length)(hj:o+new.length≤j)(hj':j<Z.length):
  w.cell? ⟨g,j,none⟩=some (.int k (gx Z j)):=by
 have:=h.cell j (by rw[oE Z new o hl];exact hj')
 rwa [DG Z new o j hl hj] at this
theorem Rd.nil:Rd w p k []:=fun h=>by simp at h
theorem Rd.lt(h:Rd w p k xs)(hx:0<xs.length):∃b off,p=some ⟨b,off,none⟩∧b<w.heap.size:=by
 obtain⟨b,off,hp,hc⟩:=h hx
 exact⟨b,off,hp,block_lt_of_cell (hc 0 hx)⟩
theorem Rd.same(h:Rd w p k xs)(hs:∀a,p=some a→a.block<w.heap.size→w'.heap[a.block]?=w.heap[a.block]?):Rd w' p k xs:=fun hx=>by
 obtain⟨b,off,hp,hc⟩:=h hx
 refine⟨b,off,hp,fun j hj=>?_⟩
 have hlt:b<w.heap.size:=block_lt_of_cell (hc 0 hx)
 rw[←hc j hj]
 exact World.cell?_of_block (a:=⟨b,off+j,none⟩) (hs ⟨b,off,none⟩ hp hlt)
theorem Rd.kept{row:Option Nat}(h:Rd w p k xs)(hg:w.grownBy w' row)(hne:∀a,p=some a→some a.block≠row):Rd w' p k xs:=
 h.same fun a ha hlt=>hg.block a.block hlt (hne a ha)
theorem Rd.ig(h:Rd w p k xs)(hg:w.grownBy w' (some g))(hne:Off g p):Rd w' p k xs:=
 h.kept hg fun a ha e=>hne a ha (Option.some.inj e)
theorem Rd.below(h:Rd w p k xs)(hb:Below w.heap.size w w'):Rd w' p k xs:=h.same fun a _ hlt=>hb.block a.block hlt
theorem Rd.off(h:Rd w p k xs)(hg:w.heap.size≤g)(hx:0<xs.length):Off g p:=fun a ha e=>by
 obtain⟨b,off,hp,hlt⟩:=h.lt hx
 rw[hp] at ha
 cases ha
 simp at e;omega
theorem Rd.drew(h:Rd w p k xs):Rd w.drew p k xs:=h
theorem Rd.alloc(h:Rd w p k xs)(o:Obj):Rd (w.alloc o) p k xs:=h.same fun a _ hlt=>Below.heap_alloc w o a.block hlt
theorem Rd.ah(h:Rd w p k xs)(a:Addr)(v:Value)(hne:Off a.block p):Rd (w.setCell a v) p k xs:=h.same fun b hb _=>heap_setCell_other w a b.block v (hne b hb)
theorem Rd.take(h:Rd w p k xs)(n:Nat):Rd w p k (xs.take n):=fun hx=>by
 obtain⟨b,off,hp,hc⟩:=h (by simp at hx;omega)
 refine⟨b,off,hp,fun j hj=>?_⟩
 have:j<n∧j<xs.length:=by simp at hj;omega
 rw[bQ _ _ _ this.1];exact hc j this.2
theorem Rd.tr(h:Rd w p k xs):Rd w p k (tr xs):=h.take _
end
def Fz(w:World)(p:Option Addr):Prop:=∀a,p=some a→a.block<w.heap.size∧∀j,w.frozen? ⟨a.block,j,none⟩=false
theorem Row.fz{w:World}{g:Nat}{e:TypeId}{k:IntKind}{xs:List Int}(h:Row w g e k xs)(o:Nat):Fz w (some ⟨g,o,none⟩):=fun a ha=>by cases ha;exact⟨h.lt,h.frozen⟩
theorem Fz.nil(w:World):Fz w none:=fun a ha=>by cases ha
theorem Fz.below{w w':World}{p:Option Addr}(h:Fz w p)(hb:Below w.heap.size w w'):Fz w' p:=fun a ha=>⟨Nat.lt_of_lt_of_le (h a ha).1 hb.size,fun j=>(hb.frozen (p:=⟨a.block,j,none⟩) (h a ha).1).trans ((h a ha).2 j)⟩
theorem Fz.set{w:World}{p:Option Addr}(h:Fz w p)(b:Addr)(v:Value):Fz (w.setCell b v) p:=fun a ha=>⟨by simpa [World.setCell] using (h a ha).1,fun j=>by rw[World.frozen?_setCell];exact(h a ha).2 j⟩
theorem cz(w:World)(row:Option Nat):w.grownBy w row:=⟨rfl,rfl,rfl,Nat.le_refl _,fun _ _ _=>rfl⟩
theorem qQ{a b c:World}{row:Option Nat}(h:a.grownBy b row)(k:b.grownBy c row):a.grownBy c row:=
 ⟨k.os.trans h.os,k.tape.trans h.tape,k.output.trans h.output,Nat.le_trans h.size k.size,fun i hi hne=>(k.block i (Nat.lt_of_lt_of_le hi h.size) hne).trans (h.block i hi hne)⟩
theorem aF{a w:World}{g:Nat}(h:a.grownBy w (some g))(j:Nat)(v:Value):a.grownBy (w.setCell ⟨g,j,none⟩ v) (some g):=
 qQ h ⟨rfl,rfl,rfl,by simp[World.setCell],fun i _ hne=>heap_setCell_other w _ i v (fun e=>hne (by rw[e]))⟩
theorem lz{a w:World}{row:Option Nat}(h:a.grownBy w row):a.grownBy w.drew row:=⟨h.os,h.tape,h.output,h.size,h.block⟩
theorem eE{a w:World}(h:Below a.heap.size a w)(row:Option Nat):a.grownBy w row:=⟨h.os,h.tape,h.output,h.size,fun k hk _=>h.block k hk⟩
theorem jA{w w':World}(h:w.grownBy w' none):Below w.heap.size w w':=⟨h.os,h.tape,h.output,h.size,fun k hk=>h.block k hk (by simp)⟩
theorem dz{B:Nat}{a w w':World}{g:Nat}(h:Below B a w)(hg:w.grownBy w' (some g))(hB:B≤w.heap.size)(hr:B≤g):Below B a w':=
 h.grown hg hB (fun k e=>by cases e;exact hr)
def aw(n:Nat):List Int:=List.replicate n 0
theorem aR(n:Nat):(aw n).length=n:=by simp[aw]
theorem dN(n j:Nat):gx (aw n) j=0:=by
 by_cases h:j<n
 ·simp[gx,aw,h]
 ·exact aJ _ n (by simp[aw]) j (by omega)
theorem val_zero(n:Nat):val (aw n)=0:=qL _ (dN n)
theorem gK(n:Nat):U32 (aw n):=fun j=>by rw[dN];decide
theorem om(k:IntKind)(n:Nat):madeCells #[.int k 0] (n*1)=ca k (aw n):=by
 apply Array.ext
 ·simp[size_madeCells,aw,ca]
 ·intro i h1 h2
  simp[madeCells,aw,ca,Nat.mod_one]
theorem Cr(k:IntKind)(xs:List Int):(ca k xs).size=xs.length:=by simp[ca]
theorem kx(k:IntKind)(xs:List Int):∀v∈xs.map (Value.int k),v.oneCell'=true:=fun v hv=>by
 obtain⟨x,_,rfl⟩:=List.mem_map.1 hv
 rfl
theorem Rd.src{w:World}{k:IntKind}{xs:List Int}{b off:Nat}(h:∀j,j<xs.length→w.cell? ⟨b,off+j,none⟩=some (.int k (gx xs j))):
  ∀j v,(xs.map (Value.int k))[j]?=some v→w.cell? ((⟨b,off,none⟩:Addr).add j)=some v:=fun j v hv=>by
 rw[Addr.add_mid]
 rw[List.getElem?_map] at hv
 cases hx:xs[j]? with
 |none=>rw[hx] at hv;cases hv
 |some x=>
  rw[hx] at hv
  have hj:=(List.getElem?_eq_some_iff.1 hx)
  rw[h j hj.1,bX xs j hj.1,hj.2]
  exact hv
theorem aM(p:Option Addr)(len cap:Nat)(xs:List Int)(w:World)(hl:xs.length=len)(hc:len≤cap)(hm:cap≤maxLen)(hx:Rd w p .u32 xs):
  Calls Tryz.prog 106 #[.slice p len cap] w fun e w'=>e=.returned (.slice p (ad xs) cap)∧w=w':=by
 unfold maxLen at hm
 go_enter Tryz.func106,Tryz.ntmps106
 go_wp2
 go_loop [3] (fun n=>∃k:Nat,k≤len∧n=.int .i64 k∧Hid (∀j,k≤j→gx xs j=0)) (fun n=>(intOf n).toNat)
 case atStart=>exact⟨len,Nat.le_refl _,rfl,aJ xs len (by omega)⟩
 case round=>
  obtain⟨k,hk,rfl,hz⟩:=hrel
  by_cases h0:k=0
  ·subst h0
   go_wp2
   go_ret
   rw[cP xs 0 hz.out (.inl rfl)]
   exact⟨rfl,rfl⟩
  ·obtain⟨m,rfl⟩:∃m,k=m+1:=⟨k-1,by omega⟩
   obtain⟨b,off,rfl,hcell⟩:=hx (by omega)
   have hcm:=hcell m (by omega)
   clear hcell
   by_cases h1:gx xs m=0
   ·have h2:(gx xs m==0)=true:=by simp only[h1];rfl
    go_wp2
    go_round
    case rel=>exact⟨m,by omega,by go_num,fun j hj=>by
     rcases Nat.lt_or_ge m j with h|h
     ·exact hz.out j h
     ·have:j=m:=by omega
      subst this;exact h1⟩
    case measure=>simp[intOf]
   ·have h2:(gx xs m==0)=false:=by simpa using h1
    go_wp2
    go_ret
    rw[cP xs (m+1) hz.out (.inr h1)]
    exact⟨rfl,rfl⟩
theorem kX(g o n cap:Nat)(Z:List Int)(q:Option Addr)(m mc:Nat)(xs:List Int)(w:World)
  (hz:o+n≤Z.length) (hcap:cap≤1099511627776) (hn:n≤cap) (hR:Row w g 132 .u32 Z) (hU:U32 Z) (hx:xs.length=m) (hm:m≤n)
  (hX:Rd w q .u32 xs) (hXu:U32 xs) (hoff:0<m→Off g q):
  Calls Tryz.prog 146 #[.slice (some ⟨g,o,none⟩) n cap,.slice q m mc] w fun e w'=>∃c new,e=.returned (.int .u32 c)∧new.length=n∧U32 new∧0≤c∧c≤1∧
   val new+pw n*c=val ((Z.drop o).take n)+val xs∧Row w' g 132 .u32 (Z.take o++new++Z.drop (o+n))∧w.grownBy w' (some g):=by
 go_enter Tryz.func146,Tryz.ntmps146
 go_wp2
 go_loopw [5,12] (fun cv iv wr=>∃(k:Nat) (c:Int) (new:List Int),k≤m∧iv=.int .i64 k∧cv=.int .u64 c∧0≤c∧c≤1∧Hid (new.length=k∧U32 new∧val new+pw k*c=val ((Z.drop o).take k)+val (xs.take k)∧Row wr g 132 .u32 (Z.take o++new++Z.drop (o+new.length))∧w.grownBy wr (some g)))
  (fun _ iv _=>m-(intOf iv).toNat)
 case atStart=>exact⟨0,0,[],Nat.zero_le _,rfl,rfl,by decide,by decide,rfl,iq,by simp[val],by rw[tB];exact hR,cz _ _⟩
 case round=>
  obtain⟨k,c,new,hk,rfl,rfl,hc0,hc1,H⟩:=hrel
  by_cases hlt:k<m
  ·obtain⟨hl,hu,hv,hr,hg⟩:=H.out
   obtain⟨b,off,rfl,hcell⟩:=(hX.ig hg (hoff (by omega))) (by omega)
   have hcx:=hcell k (by omega)
   have hcz:=hr.at (j:=o+k) (by omega) (by omega) (by omega)
   have hfz:=hr.frozen (o+k)
   have bx:=hXu k
   have bz:=hU (o+k)
   obtain⟨bx0,bx1⟩:=bx
   obtain⟨bz0,bz1⟩:=bz
   clear hl hu hv hr hg hcell
   go_wp2
   refine⟨⟨k+1,_,new++[(gx Z (o+k)+gx xs k+c)%4294967296],by omega,by go_num,rfl,by omega,by omega,?_⟩,by simp[intOf];omega⟩
   obtain⟨rfl,hu,hv,hr,hg⟩:=H.out
   refine⟨by simp,bh hu (dt (by omega)),?_,?_,aF hg _ _⟩
   ·rw[bj,val_one,ax _ _ (by simp;omega),ax _ _ (by omega),aY,aP]
    have e:=fF (pw new.length) (gx Z (o+new.length)+gx xs new.length+c)
    simp only[Int.mul_add] at e
    simp only[Int.mul_assoc] at e ⊢
    omega
   ·exact hr.step (by omega) _
  ·have hkm:k=m:=by omega
   subst hkm
   go_wp2
   go_loopw [5,9] (fun cv iv wr=>∃(k:Nat) (c:Int) (new:List Int),k≤n∧iv=.int .i64 k∧cv=.int .u64 c∧0≤c∧c≤1∧Hid (new.length=k∧U32 new∧val new+pw k*c=val ((Z.drop o).take k)+val xs∧Row wr g 132 .u32 (Z.take o++new++Z.drop (o+new.length))∧w.grownBy wr (some g)))
    (fun _ iv _=>n-(intOf iv).toNat)
   case atStart=>
    refine⟨k,c,new,hm,rfl,rfl,hc0,hc1,?_⟩
    have h:=H.out
    rw[List.take_of_length_le (l:=xs) (by omega)] at h
    exact h
   case round=>
    clear H hc0 hc1
    obtain⟨j,c,new,hj,rfl,rfl,hc0,hc1,H⟩:=hrel
    by_cases hjn:j<n
    ·by_cases hcz:c=0
     ·subst hcz
      go_wp2
      go_ret
      obtain⟨hl,hu,hv,hr,hg⟩:=H.out
      refine⟨0,new++((Z.drop o).take n).drop new.length,rfl,?_,bh hu (dh (iD hU o n) _),by decide,by decide,?_,?_,hg⟩
      ·have:=cN Z o n hz
       simp at this ⊢;omega
      ·rw[bj,cm ((Z.drop o).take n) new.length (by rw[cN Z o n hz];omega),List.take_take,Nat.min_eq_left (by omega),hl]
       simp only[Int.mul_zero] at hv ⊢
       omega
      ·rw[←tA Z new o n hz (by omega)]
       exact hr
     ·have hc1':c=1:=by omega
      subst hc1'
      obtain⟨hl,hu,hv,hr,hg⟩:=H.out
      have hcz:=hr.at (j:=o+j) (by omega) (by omega) (by omega)
      have hfz:=hr.frozen (o+j)
      obtain⟨bz0,bz1⟩:=hU (o+j)
      clear hl hu hv hr hg
      go_wp2
      ·have hne:((gx Z (o+j)+1)%4294967296 != 0)=true:=by assumption
       obtain⟨rfl,hu,hv,hr,hg⟩:=H.out
       refine⟨⟨new.length+1,0,new++[(gx Z (o+new.length)+1)%4294967296],by omega,by go_num,rfl,by decide,by decide,by simp,bh hu (dt (by omega)),?_,hr.step (by omega) _,aF hg _ _⟩,by simp[intOf];omega⟩
       rw[bj,val_one,ax _ _ (by simp;omega),aY,aP]
       simp at hne
       rw[show(gx Z (o+new.length)+1)%4294967296=gx Z (o+new.length)+1 by omega]
       simp only[Int.mul_add,Int.mul_zero,Int.mul_one] at hv ⊢
       omega
      ·have hne:((gx Z (o+j)+1)%4294967296 != 0)=false:=by assumption
       obtain⟨rfl,hu,hv,hr,hg⟩:=H.out
       refine⟨⟨new.length+1,1,new++[(gx Z (o+new.length)+1)%4294967296],by omega,by go_num,rfl,by decide,by decide,by simp,bh hu (dt (by omega)),?_,hr.step (by omega) _,aF hg _ _⟩,by simp[intOf];omega⟩
       rw[bj,val_one,ax _ _ (by simp;omega),aY,aP]
       simp at hne
       rw[show gx Z (o+new.length)=4294967295 by omega]
       simp only[Int.mul_one] at hv ⊢
       omega
    ·have hjn':j=n:=by omega
     subst hjn'
     go_wp2
     go_ret
     obtain⟨hl,hu,hv,hr,hg⟩:=H.out
     exact⟨c,new,rfl,hl,hu,hc0,hc1,hv,hl ▸ hr,hg⟩
theorem tJ(g o n cap:Nat)(Z:List Int)(q:Option Addr)(m mc:Nat)(xs:List Int)(w:World)
  (hz:o+n≤Z.length) (hcap:cap≤1099511627776) (hn:n≤cap) (hR:Row w g 132 .u32 Z) (hU:U32 Z) (hx:xs.length=m) (hm:m≤n)
  (hX:Rd w q .u32 xs) (hXu:U32 xs) (hoff:0<m→Off g q):
  Calls Tryz.prog 147 #[.slice (some ⟨g,o,none⟩) n cap,.slice q m mc] w fun e w'=>∃c new,e=.returned (.int .u32 c)∧new.length=n∧U32 new∧0≤c∧c≤1∧
   val new+val xs=val ((Z.drop o).take n)+pw n*c∧Row w' g 132 .u32 (Z.take o++new++Z.drop (o+n))∧w.grownBy w' (some g):=by
 go_enter Tryz.func147,Tryz.ntmps147
 go_wp2
 go_loopw [5,12] (fun cv iv wr=>∃(k:Nat) (c:Int) (new:List Int),k≤m∧iv=.int .i64 k∧cv=.int .u64 c∧0≤c∧c≤1∧Hid (new.length=k∧U32 new∧val new+val (xs.take k)=val ((Z.drop o).take k)+pw k*c∧Row wr g 132 .u32 (Z.take o++new++Z.drop (o+new.length))∧w.grownBy wr (some g)))
  (fun _ iv _=>m-(intOf iv).toNat)
 case atStart=>exact⟨0,0,[],Nat.zero_le _,rfl,rfl,by decide,by decide,rfl,iq,by simp[val],by rw[tB];exact hR,cz _ _⟩
 case round=>
  obtain⟨k,c,new,hk,rfl,rfl,hc0,hc1,H⟩:=hrel
  by_cases hlt:k<m
  ·obtain⟨hl,hu,hv,hr,hg⟩:=H.out
   obtain⟨b,off,rfl,hcell⟩:=(hX.ig hg (hoff (by omega))) (by omega)
   have hcx:=hcell k (by omega)
   have hcz:=hr.at (j:=o+k) (by omega) (by omega) (by omega)
   have hfz:=hr.frozen (o+k)
   have bx:=hXu k
   have bz:=hU (o+k)
   obtain⟨bx0,bx1⟩:=bx
   obtain⟨bz0,bz1⟩:=bz
   clear hl hu hv hr hg hcell
   go_wp2
   rw[xM _ _ _ bz0 bz1 bx0 bx1 hc0 hc1,xN _ _ _ bz0 bz1 bx0 bx1 hc0 hc1]
   refine⟨⟨k+1,_,new++[(gx Z (o+k)-gx xs k-c)%4294967296],by omega,by go_num,rfl,by omega,by omega,?_⟩,by simp[intOf];omega⟩
   obtain⟨rfl,hu,hv,hr,hg⟩:=H.out
   refine⟨by simp,bh hu (dt (by omega)),?_,?_,aF hg _ _⟩
   ·rw[bj,val_one,ax xs _ (by omega),ax _ _ (by simp;omega),aY,aP]
    have e:=fF (pw new.length) (gx Z (o+new.length)-gx xs new.length-c)
    simp only[Int.mul_sub] at e
    simp only[Int.mul_assoc,Int.mul_neg] at e ⊢
    omega
   ·exact hr.step (by omega) _
  ·have hkm:k=m:=by omega
   subst hkm
   go_wp2
   go_loopw [5,9] (fun cv iv wr=>∃(k:Nat) (c:Int) (new:List Int),k≤n∧iv=.int .i64 k∧cv=.int .u64 c∧0≤c∧c≤1∧Hid (new.length=k∧U32 new∧val new+val xs=val ((Z.drop o).take k)+pw k*c∧Row wr g 132 .u32 (Z.take o++new++Z.drop (o+new.length))∧w.grownBy wr (some g)))
    (fun _ iv _=>n-(intOf iv).toNat)
   case atStart=>
    refine⟨k,c,new,hm,rfl,rfl,hc0,hc1,?_⟩
    have h:=H.out
    rw[List.take_of_length_le (l:=xs) (by omega)] at h
    exact h
   case round=>
    clear H hc0 hc1
    obtain⟨j,c,new,hj,rfl,rfl,hc0,hc1,H⟩:=hrel
    by_cases hjn:j<n
    ·by_cases hcz:c=0
     ·subst hcz
      go_wp2
      go_ret
      obtain⟨hl,hu,hv,hr,hg⟩:=H.out
      refine⟨0,new++((Z.drop o).take n).drop new.length,rfl,?_,bh hu (dh (iD hU o n) _),by decide,by decide,?_,?_,hg⟩
      ·have:=cN Z o n hz
       simp at this ⊢;omega
      ·rw[bj,cm ((Z.drop o).take n) new.length (by rw[cN Z o n hz];omega),List.take_take,Nat.min_eq_left (by omega),hl]
       simp only[Int.mul_zero] at hv ⊢
       omega
      ·rw[←tA Z new o n hz (by omega)]
       exact hr
     ·have hc1':c=1:=by omega
      subst hc1'
      obtain⟨hl,hu,hv,hr,hg⟩:=H.out
      have hcz:=hr.at (j:=o+j) (by omega) (by omega) (by omega)
      have hfz:=hr.frozen (o+j)
      obtain⟨bz0,bz1⟩:=hU (o+j)
      clear hl hu hv hr hg
      go_wp2
      ·have hne:(gx Z (o+j) != 0)=true:=by assumption
       obtain⟨rfl,hu,hv,hr,hg⟩:=H.out
       refine⟨⟨new.length+1,0,new++[(gx Z (o+new.length)-1)%4294967296],by omega,by go_num,rfl,by decide,by decide,by simp,bh hu (dt (by omega)),?_,hr.step (by omega) _,aF hg _ _⟩,by simp[intOf];omega⟩
       rw[bj,val_one,ax _ _ (by simp;omega),aY,aP]
       simp at hne
       rw[show(gx Z (o+new.length)-1)%4294967296=gx Z (o+new.length)-1 by omega]
       simp only[Int.mul_sub,Int.mul_zero,Int.mul_one] at hv ⊢
       omega
      ·have hne:(gx Z (o+j) != 0)=false:=by assumption
       obtain⟨rfl,hu,hv,hr,hg⟩:=H.out
       refine⟨⟨new.length+1,1,new++[(gx Z (o+new.length)-1)%4294967296],by omega,by go_num,rfl,by decide,by decide,by simp,bh hu (dt (by omega)),?_,hr.step (by omega) _,aF hg _ _⟩,by simp[intOf];omega⟩
       rw[bj,val_one,ax _ _ (by simp;omega),aY,aP]
       simp at hne
       rw[show gx Z (o+new.length)=0 by omega]
       simp only[Int.mul_one,Int.mul_zero] at hv ⊢
       omega
    ·have hjn':j=n:=by omega
     subst hjn'
     go_wp2
     go_ret
     obtain⟨hl,hu,hv,hr,hg⟩:=H.out
     exact⟨c,new,rfl,hl,hu,hc0,hc1,hv,hl ▸ hr,hg⟩
theorem nm:(Tryz.prog.info? 132).map (fun i=>(i.zero,i.size,i.bytes))=some (some (.int .u32 0),1,4):=by kernel_rfl
theorem jP(n:Nat)(h:n≤1099511627776)(w:World):(Instr.makeSlice 22 (.int .i64 n) (.int .i64 n)).run Tryz.prog w =
  .ok (.slice (some ⟨w.heap.size,0,none⟩) n n) (w.alloc (.cells (ca .u32 (aw n)) 132)):=by
 have hi:=nm
 cases hq:Tryz.prog.info? 132 with
 |none=>rw[hq] at hi;cases hi
 |some i=>
  rw[hq] at hi
  simp only[Option.map_some,Option.some.injEq,Prod.mk.injEq] at hi
  obtain⟨h1,h2,h3⟩:=hi
  have hr:=run_make (P:=Tryz.prog) w 22 132 i (.int .u32 0) Tryz.underlying22 hq h1 .i64 .i64 n n (by omega) (Int.le_refl _) (by rw[h3];omega) (by omega)
  rw[Int.toNat_natCast,h2] at hr
  rw[hr]
  exact congrArg (fun c=>Result.ok (Value.slice (some ⟨w.heap.size,0,none⟩) n n) (w.alloc (.cells c 132))) (om .u32 n)
theorem mV(ty:TypeId)(w:World)(q:Option Addr)(m mc n:Nat)(xs:List Int)(hX:Rd w q .u32 xs)(hl:xs.length=m)(hmn:m≤n):
  (Builtin.copy_ #[22,22] ty #[.slice (some ⟨w.heap.size,0,none⟩) n n,.slice q m mc]).run Tryz.prog (w.alloc (.cells (ca .u32 (aw n)) 132)) =
   .ok (.int .i64 m) (w.alloc (.cells (ca .u32 (xs++aw (n-m))) 132)):=by
 by_cases h0:m=0
 ·subst h0
  have:xs=[]:=List.eq_nil_of_length_eq_zero hl
  subst this
  exact run_copy_none (P:=Tryz.prog) _ 22 22 ty 132 _ _ n n 0 mc Tryz.underlying22 (by kernel_rfl) (by simp)
 ·obtain⟨b,off,rfl,hc⟩:=(hX.alloc (.cells (ca .u32 (aw n)) 132)) (by omega)
  rw[run_copy_row Tryz.prog _ 22 22 ty 132 w.heap.size 0 n n ⟨b,off,none⟩ m mc _ 132 (xs.map (Value.int .u32)) Tryz.underlying22 (by kernel_rfl) (heap_alloc_new w _) (by simp only[List.length_map,hl];exact(Nat.min_eq_left hmn).symm) (Rd.src hc) (by simp[Cr,aR];omega) (kx _ _)]
  rw[World.setRow_alloc_new]
  congr 2
  ·simp[hl]
  ·simp[ca,aw,hl]
theorem eO(q:Option Addr)(m mc:Nat)(xs:List Int)(w:World)(hl:xs.length=m)(hm:m≤1099511627776)(hX:Rd w q .u32 xs):
  Calls Tryz.prog 140 #[.slice q m mc] w fun e w'=>e=.returned (.slice (some ⟨w.heap.size,0,none⟩) m m)∧w.alloc (.cells (ca .u32 xs) 132)=w':=by
 have hmk:=jP m hm
 have hcp:=fun ty=>mV ty w q m mc m xs hX hl (Nat.le_refl m)
 rw[Nat.sub_self,show xs++aw 0=xs by simp[aw]] at hcp
 go_enter Tryz.func140,Tryz.ntmps140
 go_wp2
 go_ret
 exact⟨rfl,rfl⟩
theorem zQ(q:Option Addr)(m mc:Nat)(w:World)(hm:m≤mc)(hc:mc≤maxLen):
  Calls Tryz.prog 139 #[.slice q m mc] w fun e w'=>e=.returned (.slice q m m)∧w=w':=by
 unfold maxLen at hc
 go_enter Tryz.func139,Tryz.ntmps139
 go_wp2
 go_ret
 exact⟨rfl,rfl⟩
def nsg(neg:Bool)(xs:List Int):Bool:=if ad xs=0 then false else neg
def nad(q:Option Addr)(xs:List Int):Option Addr:=if ad xs=0 then none else q
theorem bH(neg:Bool)(q:Option Addr)(m mc:Nat)(xs:List Int)(w:World)(hl:xs.length=m)(hm:m≤mc)(hc:mc≤maxLen)(hX:Rd w q .u32 xs):
  Calls Tryz.prog 104 #[.bool neg,.slice q m mc] w fun e w'=>e=.returned (.agg #[.bool (nsg neg xs),.slice (nad q xs) (ad xs) (ad xs)])∧Below w.heap.size w w':=by
 have ht:=ao xs
 by_cases h0:ad xs=0
 ·rw[nsg,nad,if_pos h0,if_pos h0,h0]
  have hc':=hc
  unfold maxLen at hc'
  go_enter Tryz.func104,Tryz.ntmps104
  go_wp2_with (go_at_call 106;refine(aM q m mc xs _ hl hm hc (hX.alloc _)).mono ?_;rintro e w' ⟨rfl,rfl⟩)
  exact bodyPost_ret (v:=.agg #[.bool false,.slice none 0 0]) (by simp[results,Tryz.results104,go_sem]) rfl ⟨rfl,(Below.refl _ _).alloc (Nat.le_refl _) _⟩
 ·rw[nsg,nad,if_neg h0,if_neg h0]
  have hc':=hc
  unfold maxLen at hc'
  have h1:(((ad xs:Nat):Int)==0)=false:=beq_eq_false_iff_ne.2 (by omega)
  go_enter Tryz.func104,Tryz.ntmps104
  go_wp2_with (first
   |(go_at_call 106;refine(aM q m mc xs _ hl hm hc (hX.alloc _)).mono ?_;rintro e w' ⟨rfl,rfl⟩)
   |(go_at_call 139;refine(zQ q (ad xs) mc _ (by omega) hc).mono ?_;rintro e w' ⟨rfl,rfl⟩))
  exact bodyPost_ret (v:=.agg #[.bool neg,.slice q (ad xs) (ad xs)]) (by simp[results,Tryz.results104,go_sem]) rfl ⟨rfl,(Below.refl _ _).alloc (Nat.le_refl _) _⟩
theorem jh(m:Int)(w:World)(h0:0≤m)(h1:m<18446744073709551616):
  Calls Tryz.prog 105 #[.int .u64 m] w fun e w'=>e=.returned (.slice (some ⟨w.heap.size,0,none⟩) 2 2)∧w.alloc (.cells (ca .u32 [m%4294967296,m/4294967296]) 132)=w':=by
 go_enter Tryz.func105,Tryz.ntmps105
 go_wp2
 go_ret
 exact⟨rfl,rfl⟩
end Go.Proofs.YtfnkomoickanfaaGreatDoor
