/- Own. -/
import Derived.WalkKit
import Derived.WalkSpells
import Derived.WalkLawsBesides
import Derived.Deep.QuietTactic
import Derived.BigQuiet
import Derived.Laws.CopyOwn
import Derived.Deep.AppendLies
import Derived.Deep.RegionHeld3
import Derived.Deep.MidRow
import Derived.Deep.WholeRow
import Derived.Test.YtdjjlghlcffflaaGreatDoorProg
set_option linter.unusedVariables false
set_option linter.unusedSimpArgs false
set_option maxHeartbeats 8000000
set_option maxRecDepth 100000
namespace Go.Proofs.YtdjjlghlcffflaaGreatDoor
open Go.RowKit
theorem Jr:∀(n:Nat),n<=n:=@Nat.le_refl
theorem Js:∀(w:World) (o:Obj),(w.alloc o).heap.size=w.heap.size+1:=@World.size_alloc
theorem Jt:∀(B:Nat) (w:World),Below B w w:=@Below.refl
theorem Ju:∀(n m:Nat),n<m\/n>=m:=@Nat.lt_or_ge
theorem Jv:∀{α:Type} {i:Nat} {l:List α},l.length<=i->List.take i l=l:=@List.take_of_length_le
theorem Jw:∀(n:Nat),n=0\/n>0:=@Nat.eq_zero_or_pos
theorem Jx:∀{a b c:Int},a<=b->0<=c->c*a<=c*b:=@Int.mul_le_mul_of_nonneg_left
theorem Jy:∀{a b c:Int},a<=b->0<=c->a*c<=b*c:=@Int.mul_le_mul_of_nonneg_right
theorem Jz:∀(n:Nat),0<=n:=@Nat.zero_le
theorem JA:∀{n m k:Nat},n<=m->m<=k->n<=k:=@Nat.le_trans
theorem JB:∀{α:Type} {l:List α},l.length=0->l=[]:=@List.eq_nil_of_length_eq_zero
theorem JC:∀(a:Int),a*0=0:=@Int.mul_zero
theorem JD:∀(n m:Nat),n+m-m=n:=@Nat.add_sub_cancel
theorem JE:∀{n m k:Nat},n<m->m<=k->n<k:=@Nat.lt_of_lt_of_le
theorem JF:∀(a b c:Int),a*(b+c)=a*b+a*c:=@Int.mul_add
theorem JG:∀(a b c:Int),a*b*c=a*(b*c):=@Int.mul_assoc
theorem JH:∀(a b c:Int),a*(b*c)=b*(a*c):=@Int.mul_left_comm
theorem JI:∀(a b:Int),a*b=b*a:=@Int.mul_comm
theorem JJ:∀{a b:Int},0<=a->0<=b->0<=a*b:=@Int.mul_nonneg
theorem JK:∀(a:Int) {b:Int},0<b->a%b<b:=@Int.emod_lt_of_pos
theorem JL:∀{α:Type} {i:Nat} {l:List α},l.length<=i->List.drop i l=[]:=@List.drop_of_length_le
theorem JM:∀{a b:Int},0<=a->a.tdiv b=a/b:=@Int.tdiv_eq_ediv_of_nonneg
def gx(xs:List Int)(j:Nat):Int:=xs.getD j 0
theorem cS(j:Nat):gx [] j=0:=by simp[gx]
theorem d_(x:Int)(r:List Int)(j:Nat):gx (x::r) (j+1)=gx r j:=by simp[gx]
theorem cJ(x:Int)(r:List Int):gx (x::r) 0=x:=by simp[gx]
def ad:List Int->Nat
 | []=>0
 |x::r=>if ad r=0 then (if x=0 then 0 else 1) else ad r+1
theorem aj(xs:List Int):ad xs<=xs.length:=by
 induction xs with
 |nil=>simp[ad]
 |cons x r ih=>simp only[ad,List.length_cons];split<;>(try split)<;>omega
theorem az(xs:List Int):∀j,ad xs<=j->gx xs j=0:=by
 induction xs with
 |nil=>intro j _;exact cS j
 |cons x r ih=>
  intro j hj;simp only[ad] at hj
  cases j with
  |zero=>
   rw[cJ];split at hj
   ·split at hj
    ·assumption
    ·omega
   ·omega
  |succ j=>
   rw[d_];apply ih;split at hj
   ·omega
   ·omega
theorem aw(xs:List Int)(h:0<ad xs):gx xs (ad xs-1)≠0:=by
 induction xs with
 |nil=>simp[ad] at h
 |cons x r ih=>
  simp only[ad] at h ⊢
  split
  ·split
   ·rename_i h1 h2;simp[h1,h2] at h
   ·rw[cJ];assumption
  ·rename_i h1
   have e:ad r+1-1=(ad r-1)+1:=by omega
   rw[e,d_];exact ih (by omega)
theorem aX(xs:List Int)(n:Nat)(h2:∀j,n<=j->gx xs j=0)(h3:n=0\/gx xs (n-1)≠0):ad xs=n:=by
 rcases Nat.lt_trichotomy (ad xs) n with h|h|h
 ·rcases h3 with h3|h3
  ·omega
  ·exact absurd (az xs (n-1) (by omega)) h3
 ·exact h
 ·exact absurd (h2 (ad xs-1) (by omega)) (aw xs (by omega))
theorem ak(xs:List Int)(n:Nat)(h:xs.length<=n):∀j,n<=j->gx xs j=0:=fun j hj=>by
 rw[gx,List.getD_eq_getElem?_getD,List.getElem?_eq_none (by omega)];rfl
def val:List Int->Int
 | []=>0
 |x::r=>x+4294967296*val r
def U32(xs:List Int):Prop:=∀j,0<=gx xs j/\gx xs j<4294967296
def pw(k:Nat):Int:=4294967296^k
theorem iZ:pw 0=1:=rfl
theorem bE(k:Nat):pw (k+1)=4294967296*pw k:=by unfold pw;rw[Int.pow_succ,JI]
theorem bu(k:Nat):0<pw k:=Int.pow_pos (by decide)
theorem fA(a b:Nat):pw (a+b)=pw a*pw b:=Int.pow_add ..
theorem cz(a b:List Int)(j:Nat)(h:j<a.length):gx (a++b) j=gx a j:=by
 simp[gx,List.getElem?_append_left h]
theorem cf(a b:List Int)(j:Nat)(h:a.length<=j):gx (a++b) j=gx b (j-a.length):=by
 simp[gx,List.getElem?_append_right h]
theorem bZ(xs:List Int)(j:Nat)(h:j<xs.length):gx xs j=xs[j]:=by simp[gx,h]
theorem bm(xs:List Int)(k j:Nat)(h:j<k):gx (xs.take k) j=gx xs j:=by simp[gx,h]
theorem bC(xs:List Int)(k j:Nat):gx (xs.drop k) j=gx xs (k+j):=by simp[gx,List.getElem?_drop]
theorem bK(xs:List Int)(j:Nat)(v:Int)(h:j<xs.length):gx (xs.set j v) j=v:=by simp[gx,h]
theorem cl(xs:List Int)(j k:Nat)(v:Int)(h:j≠k):gx (xs.set j v) k=gx xs k:=by simp[gx,List.getElem?_set_ne h]
theorem dm(a b:List Int)(hl:a.length=b.length)(h:∀j,j<a.length->gx a j=gx b j):a=b:=by
 apply List.ext_getElem hl;intro j h1 h2;have:=h j h1;rwa [bZ a j h1,bZ b j h2] at this
theorem bq(a b:List Int):val (a++b)=val a+pw a.length*val b:=by
 induction a with
 |nil=>simp[val,iZ]
 |cons x r ih=>
  simp only[List.cons_append,val,List.length_cons,bE,ih,JF,JG];omega
theorem val_one(x:Int):val [x]=x:=by simp[val]
theorem oW(xs:List Int)(k:Nat)(h:k<xs.length):xs.take (k+1)=xs.take k++[gx xs k]:=by
 rw[List.take_succ_eq_append_getElem h,bZ xs k h]
theorem aD(xs:List Int)(k:Nat)(h:k<xs.length):val (xs.take (k+1))=val (xs.take k)+pw k*gx xs k:=by
 rw[oW xs k h,bq,val_one,List.length_take,Nat.min_eq_left (by omega)]
theorem jg:U32 []:=fun j=>by rw[cS];decide
variable {xs:List Int}
theorem an(h:U32 xs)(k:Nat):U32 (xs.take k):=fun j=>by
 by_cases hj:j<k
 ·rw[bm xs k j hj];exact h j
 ·rw[ak (xs.take k) k (by simp;omega) j (by omega)];decide
theorem cd(h:U32 xs)(k:Nat):U32 (xs.drop k):=fun j=>by rw[bC];exact h _
variable {a b:List Int}
theorem aO(ha:U32 a)(hb:U32 b):U32 (a++b):=fun j=>by
 by_cases hj:j<a.length
 ·rw[cz a b j hj];exact ha j
 ·rw[cf a b j (by omega)];exact hb _
variable {x:Int}
theorem ef(h:0<=x/\x<4294967296):U32 [x]:=fun j=>by
 cases j with
 |zero=>rw[cJ];exact h
 |succ j=>rw[d_,cS];decide
theorem jf{r:List Int}(h:U32 (x::r)):(0<=x/\x<4294967296)/\U32 r:=
 ⟨by have:=h 0;rwa [cJ] at this,fun j=>by have:=h (j+1);rwa [d_] at this⟩
theorem ar(h:U32 xs):0<=val xs:=by
 induction xs with
 |nil=>simp[val]
 |cons x r ih=>obtain⟨h1,h2⟩:=jf h;have:=ih h2;simp only[val];omega
theorem bN(h:U32 xs):val xs<pw xs.length:=by
 induction xs with
 |nil=>simp[val,iZ]
 |cons x r ih=>obtain⟨h1,h2⟩:=jf h;have:=ih h2;simp only[val,List.length_cons,bE];omega
theorem val_inj(ha:U32 a)(hb:U32 b)(hl:a.length=b.length)(h:val a=val b):a=b:=by
 induction a generalizing b with
 |nil=>cases b with
  |nil=>rfl
  |cons y s=>simp at hl
 |cons x r ih=>cases b with
  |nil=>simp at hl
  |cons y s=>
   obtain⟨h1,h2⟩:=jf ha;obtain⟨h3,h4⟩:=jf hb;simp only[val] at h
   simp only[List.length_cons] at hl
   rw[ih h2 h4 (by omega) (by omega),show x=y by omega]
theorem da(xs:List Int)(k:Nat)(h:k<=xs.length):val xs=val (xs.take k)+pw k*val (xs.drop k):=by
 have:=bq (xs.take k) (xs.drop k);rwa [List.take_append_drop,List.length_take,Nat.min_eq_left h] at this
theorem vq(xs:List Int)(h:∀j,gx xs j=0):val xs=0:=by
 induction xs with
 |nil=>rfl
 |cons x r ih=>
  have h0:=h 0;rw[cJ] at h0
  simp only[val,h0,ih (fun j=>by have:=h (j+1);rwa [d_] at this)]
  decide
def tr(xs:List Int):List Int:=xs.take (ad xs)
theorem af(xs:List Int):(tr xs).length=ad xs:=by simp[tr,aj]
theorem aK(xs:List Int):val (tr xs)=val xs:=by
 rw[da xs (ad xs) (aj xs),vq (xs.drop (ad xs)) (fun j=>by rw[bC];exact az xs _ (by omega))]
 simp[tr]
theorem cC(h:U32 xs):U32 (tr xs):=an h _
theorem aN(xs:List Int)(j:Nat):gx (tr xs) j=gx xs j:=by
 by_cases h:j<ad xs
 ·exact bm xs _ j h
 ·rw[az xs j (by omega),ak (tr xs) _ (Nat.le_of_eq (af xs)) j (by omega)]
theorem aM(xs:List Int):ad (tr xs)=ad xs:=
 aX _ _ (fun j hj=>by rw[aN];exact az xs j hj) (by
  rcases Jw (ad xs) with h|h
  ·exact .inl h
  ·right;rw[aN];exact aw xs h)
theorem bV(h:U32 xs)(ht:0<ad xs):pw (ad xs-1)<=val xs:=by
 have hl:=aj xs;have e:=da xs (ad xs-1) (by omega)
 have ht':=aw xs ht;have h1:=ar (an h (ad xs-1));have hg:=h (ad xs-1);have h2:1<=val (xs.drop (ad xs-1)):=by
  cases hd:xs.drop (ad xs-1) with
  |nil=>have:=congrArg List.length hd;simp at this;omega
  |cons x r=>
   have hx:gx xs (ad xs-1)=x:=by
    have:=bC xs (ad xs-1) 0;rw[hd,cJ,Nat.add_zero] at this;exact this.symm
   have hr:U32 r:=(jf (hd ▸ cd h (ad xs-1))).2;have:=ar hr;simp only[val];omega
 have h3:=bu (ad xs-1);have h4:pw (ad xs-1)*1<=pw (ad xs-1)*val (xs.drop (ad xs-1)):=Jx h2 (by omega)
 omega
theorem bF(h:U32 xs):ad xs=0<->val xs=0:=by
 constructor
 ·intro h0
  rw[<-aK,tr,h0];rfl
 ·intro h0
  rcases Jw (ad xs) with ht|ht
  ·exact ht
  ·have:=bV h ht;have:=bu (ad xs-1);omega
theorem aW{a b:Nat}(h:a<=b):pw a<=pw b:=by
 obtain⟨c,rfl⟩:=Nat.exists_eq_add_of_le h;rw[fA];have h1:=bu a;have h2:=bu c;have:pw a*1<=pw a*pw c:=Jx (by omega) (by omega)
 omega
theorem f_(h:U32 xs):val xs<pw (ad xs):=by
 have:=bN (cC h);rwa [aK,af] at this
theorem Jq(ha:U32 a)(hb:U32 b)(h:val a=val b):tr a=tr b:=by
 have hl:ad a=ad b:=by
  rcases Nat.lt_trichotomy (ad a) (ad b) with h1|h1|h1
  ·have h2:=f_ ha
   have h3:=bV hb (by omega)
   have h4:pw (ad a)<=pw (ad b-1):=aW (by omega)
   omega
  ·exact h1
  ·have h2:=f_ hb
   have h3:=bV ha (by omega)
   have h4:pw (ad b)<=pw (ad a-1):=aW (by omega)
   omega
 exact val_inj (cC ha) (cC hb) (by rw[af,af,hl]) (by rw[aK,aK,h])
theorem GY(Z new:List Int)(o:Nat)(v:Int)(h:o+new.length<Z.length):
  (Z.take o++new++Z.drop (o+new.length)).set (o+new.length) v=Z.take o++(new++[v])++Z.drop (o+(new.length+1)):=by
 have hl:(Z.take o++new).length=o+new.length:=by simp;omega
 rw[List.set_append_right _ _ (by omega),hl,Nat.sub_self,List.drop_eq_getElem_cons h]
 simp[Nat.add_assoc]
theorem sP(Z new:List Int)(o:Nat)(h:o+new.length<=Z.length):(Z.take o++new++Z.drop (o+new.length)).length=Z.length:=by
 simp;omega
theorem CO(Z new:List Int)(o j:Nat)(h:o+new.length<=Z.length)(hj:o+new.length<=j):gx (Z.take o++new++Z.drop (o+new.length)) j=gx Z j:=by
 have hl:(Z.take o++new).length=o+new.length:=by simp;omega
 rw[cf _ _ _ (by omega),bC,hl]
 congr 1;omega
theorem AT(Z new:List Int)(o j n:Nat)(h:o<=Z.length)(hj:j<new.length):gx (Z.take o++new++Z.drop n) (o+j)=gx new j:=by
 have hl:(Z.take o).length=o:=by simp;omega
 rw[List.append_assoc,cf _ _ _ (by omega),hl,cz _ _ _ (by omega)]
 congr 1;omega
theorem xN(Z:List Int)(o:Nat):Z.take o++[]++Z.drop (o+([]:List Int).length)=Z:=by simp
theorem xM(Z new:List Int)(o n:Nat)(h:o+n<=Z.length)(hn:new.length<=n):
  Z.take o++new++Z.drop (o+new.length)=Z.take o++(new++((Z.drop o).take n).drop new.length)++Z.drop (o+n):=by
 rw[List.append_assoc,List.append_assoc,List.append_assoc];congr 2;rw[List.drop_take,List.drop_drop];have e:Z.drop (o+n)=(Z.drop (o+new.length)).drop (n-new.length):=by rw[List.drop_drop];congr 1;omega
 rw[e,List.take_append_drop]
theorem Gz(Z:List Int)(o n j:Nat)(hj:j<n):gx ((Z.drop o).take n) j=gx Z (o+j):=by rw[bm _ _ _ hj,bC]
theorem dJ(Z:List Int)(o n:Nat)(h:o+n<=Z.length):((Z.drop o).take n).length=n:=by simp;omega
variable {Z:List Int}
theorem ku(h:U32 Z)(o n:Nat):U32 ((Z.drop o).take n):=an (cd h o) n
theorem iL(P t:Int):P*(t%4294967296)+4294967296*P*(t/4294967296)=P*t:=by
 have h:=Int.emod_add_mul_ediv t 4294967296;have e:4294967296*P*(t/4294967296)=P*(4294967296*(t/4294967296)):=by
  rw[JI 4294967296 P,JG]
 rw[e,<-JF,h]
theorem jq(x:Int):IntKind.u64.wrap x=x%18446744073709551616:=by rw[IntKind.wrap_u64]
theorem Br(z x c:Int)(h1:0<=z)(h2:z<4294967296)(h3:0<=x)(h4:x<4294967296)(h5:0<=c)(h6:c<=1):
  IntKind.u64.wrap (IntKind.u64.wrap (z-x)-c)/9223372036854775808 = -((z-x-c)/4294967296):=by
 rw[jq,jq];omega
theorem Bs(z x c:Int)(h1:0<=z)(h2:z<4294967296)(h3:0<=x)(h4:x<4294967296)(h5:0<=c)(h6:c<=1):
  IntKind.u64.wrap (IntKind.u64.wrap (z-x)-c)%4294967296=(z-x-c)%4294967296:=by
 rw[jq,jq];omega
def bQ(a b:Int):Int:=if a<b then -1 else if b<a then 1 else 0
theorem cK{a b:Int}(h:a<b):bQ a b = -1:=if_pos h
theorem ee{a b:Int}(h:b<a):bQ a b=1:=by rw[bQ,if_neg (by omega),if_pos h]
theorem iR(a:Int):bQ a a=0:=by rw[bQ,if_neg (by omega),if_neg (by omega)]
theorem tc(a:List Int)(j:Nat)(h:j<a.length):val a=val (a.take j)+pw j*gx a j+pw (j+1)*val (a.drop (j+1)):=by
 rw[da a (j+1) (by omega),aD a j h]
theorem vo(ha:U32 a)(hb:U32 b)(j:Nat)(h1:j<a.length)(h2:j<b.length)(hd:a.drop (j+1)=b.drop (j+1))(h:gx a j<gx b j):val a<val b:=by
 rw[tc a j h1,tc b j h2,hd];have l1:=bN (an ha j);have l2:=ar (an hb j);rw[List.length_take,Nat.min_eq_left (by omega)] at l1
 have l3:pw j*gx a j<=pw j*(gx b j-1):=Jx (by omega) (Int.le_of_lt (bu j))
 rw[Int.mul_sub,Int.mul_one] at l3
 omega
theorem nF(ha:U32 a)(hb:U32 b)(h:ad a<ad b):val a<val b:=by
 have h1:=f_ ha;have h2:=bV hb (by omega)
 have h3:pw (ad a)<=pw (ad b-1):=aW (by omega)
 omega
theorem uB(j:Nat)(h1:j<a.length)(h2:j<b.length)(hd:a.drop (j+1)=b.drop (j+1))(h:gx a j=gx b j):a.drop j=b.drop j:=by
 rw[List.drop_eq_getElem_cons h1,List.drop_eq_getElem_cons h2,hd,<-bZ a j h1,<-bZ b j h2,h]
def Rd(w:World)(p:Option Addr)(k:IntKind)(xs:List Int):Prop:=
 0<xs.length->∃b off,p=some ⟨b,off,none⟩/\∀j,j<xs.length->w.cell? ⟨b,off+j,none⟩=some (.int k (gx xs j))
def ca(k:IntKind)(xs:List Int):Array Value:=(xs.map (Value.int k)).toArray
def Row(w:World)(g:Nat)(e:TypeId)(k:IntKind)(xs:List Int):Prop:=w.heap[g]?=some (.cells (ca k xs) e (0,0))
def aJ(B:Nat)(p:Option Addr):Prop:=∀a,p=some a->B<=a.block
def Off(g:Nat)(p:Option Addr):Prop:=∀a,p=some a->a.block≠g
section
variable {w w':World} {g:Nat} {e:TypeId} {k:IntKind} {xs:List Int} {p:Option Addr}
theorem Row.lt(h:Row w g e k xs):g<w.heap.size:=(Array.getElem?_eq_some_iff.1 h).1
theorem Row.cell(h:Row w g e k xs)(j:Nat)(hj:j<xs.length):w.cell? ⟨g,j,none⟩=some (.int k (gx xs j)):=by
 rw[cell_of_row w g j _ e (0,0) h,bZ xs j hj];simp[ca,hj]
theorem Row.frozen(h:Row w g e k xs)(j:Nat):w.frozen? ⟨g,j,none⟩=false:=frozen_of_row w g j _ e h
theorem Row.set(h:Row w g e k xs)(j:Nat)(v:Int):Row (w.setCell ⟨g,j,none⟩ (.int k v)) g e k (xs.set j v):=by
 unfold Row;rw[heap_setCell_same w g j _ e _ h];simp[ca,List.map_set]
theorem Row.kept{row:Option Nat}(h:Row w g e k xs)(hg:w.grownBy w' row)(hne:some g≠row):Row w' g e k xs:=(hg.block g h.lt hne).trans h
theorem Row.below{B:Nat}(h:Row w g e k xs)(hb:Below B w w')(hg:g<B):Row w' g e k xs:=(hb.block g hg).trans h
theorem Row.drew(h:Row w g e k xs):Row w.drew g e k xs:=h
theorem Row.alloc(h:Row w g e k xs)(o:Obj):Row (w.alloc o) g e k xs:=(Below.heap_alloc w o g h.lt).trans h
theorem Row.new(w:World)(e:TypeId)(k:IntKind)(xs:List Int):Row (w.alloc (.cells (ca k xs) e)) w.heap.size e k xs:=heap_alloc_new w _
theorem Row.ah(h:Row w g e k xs)(a:Addr)(v:Value)(hne:g≠a.block):Row (w.setCell a v) g e k xs:=(heap_setCell_other w a g v hne).trans h
theorem Row.rd(h:Row w g e k xs)(o n:Nat)(hn:o+n<=xs.length):Rd w (some ⟨g,o,none⟩) k ((xs.drop o).take n):=fun _=>
 ⟨g,o,rfl,fun j hj=>by
  have hj':j<n:=by simp at hj;omega
  rw[bm _ _ _ hj',bC];exact h.cell (o+j) (by omega)⟩
theorem Row.a8(h:Row w g e k xs):Rd w (some ⟨g,0,none⟩) k xs:=fun _=>⟨g,0,rfl,fun j hj=>by rw[Nat.zero_add];exact h.cell j hj⟩
theorem Row.b5(h:Row w g e k xs)(n:Nat):Rd w (some ⟨g,0,none⟩) k (xs.take n):=fun _=>⟨g,0,rfl,fun j hj=>by
 have:j<n/\j<xs.length:=by simp at hj;omega
 rw[Nat.zero_add,bm _ _ _ this.1];exact h.cell j this.2⟩
theorem Row.step{Z new:List Int}{o:Nat}(h:Row w g e k (Z.take o++new++Z.drop (o+new.length)))(hl:o+new.length<Z.length)(v:Int):
  Row (w.setCell ⟨g,o+new.length,none⟩ (.int k v)) g e k (Z.take o++(new++[v])++Z.drop (o+(new++[v]).length)):=by
 have:=h.set (o+new.length) v;rw[GY Z new o _ hl] at this
 simpa using this
theorem Row.at{Z new:List Int}{o j:Nat}(h:Row w g e k (Z.take o++new++Z.drop (o+new.length)))(hl:o+new.length<=Z.length)(hj:o+new.length<=j)(hj':j<Z.length):
  w.cell? ⟨g,j,none⟩=some (.int k (gx Z j)):=by
 have:=h.cell j (by rw[sP Z new o hl];exact hj')
 rwa [CO Z new o j hl hj] at this
theorem Rd.nil:Rd w p k []:=fun h=>by simp at h
theorem Rd.lt(h:Rd w p k xs)(hx:0<xs.length):∃b off,p=some ⟨b,off,none⟩/\b<w.heap.size:=by
 obtain⟨b,off,hp,hc⟩:=h hx;exact⟨b,off,hp,block_lt_of_cell (hc 0 hx)⟩
theorem Rd.same(h:Rd w p k xs)(hs:∀a,p=some a->a.block<w.heap.size->w'.heap[a.block]?=w.heap[a.block]?):Rd w' p k xs:=fun hx=>by
 obtain⟨b,off,hp,hc⟩:=h hx;refine⟨b,off,hp,fun j hj=>?_⟩
 have hlt:b<w.heap.size:=block_lt_of_cell (hc 0 hx);rw[<-hc j hj];exact World.cell?_of_block (a:=⟨b,off+j,none⟩) (hs ⟨b,off,none⟩ hp hlt)
theorem Rd.kept{row:Option Nat}(h:Rd w p k xs)(hg:w.grownBy w' row)(hne:∀a,p=some a->some a.block≠row):Rd w' p k xs:=
 h.same fun a ha hlt=>hg.block a.block hlt (hne a ha)
theorem Rd.dw(h:Rd w p k xs)(hg:w.grownBy w' (some g))(hne:Off g p):Rd w' p k xs:=
 h.kept hg fun a ha e=>hne a ha (Option.some.inj e)
theorem Rd.below(h:Rd w p k xs)(hb:Below w.heap.size w w'):Rd w' p k xs:=h.same fun a _ hlt=>hb.block a.block hlt
theorem Rd.off(h:Rd w p k xs)(hg:w.heap.size<=g)(hx:0<xs.length):Off g p:=fun a ha e=>by
 obtain⟨b,off,hp,hlt⟩:=h.lt hx;rw[hp] at ha
 cases ha
 simp at e;omega
theorem Rd.drew(h:Rd w p k xs):Rd w.drew p k xs:=h
theorem Rd.alloc(h:Rd w p k xs)(o:Obj):Rd (w.alloc o) p k xs:=h.same fun a _ hlt=>Below.heap_alloc w o a.block hlt
theorem Rd.ah(h:Rd w p k xs)(a:Addr)(v:Value)(hne:Off a.block p):Rd (w.setCell a v) p k xs:=h.same fun b hb _=>heap_setCell_other w a b.block v (hne b hb)
theorem Rd.take(h:Rd w p k xs)(n:Nat):Rd w p k (xs.take n):=fun hx=>by
 obtain⟨b,off,hp,hc⟩:=h (by simp at hx;omega)
 refine⟨b,off,hp,fun j hj=>?_⟩
 have:j<n/\j<xs.length:=by simp at hj;omega
 rw[bm _ _ _ this.1];exact hc j this.2
theorem Rd.tr(h:Rd w p k xs):Rd w p k (tr xs):=h.take _
end
def Fz(w:World)(p:Option Addr):Prop:=∀a,p=some a->a.block<w.heap.size/\∀j,w.frozen? ⟨a.block,j,none⟩=false
variable {w:World} {g:Nat}
theorem Row.fz{e:TypeId}{k:IntKind}(h:Row w g e k xs)(o:Nat):Fz w (some ⟨g,o,none⟩):=fun a ha=>by cases ha;exact⟨h.lt,h.frozen⟩
theorem Fz.nil(w:World):Fz w none:=fun a ha=>by cases ha
variable {w':World} {p:Option Addr}
theorem Fz.below(h:Fz w p)(hb:Below w.heap.size w w'):Fz w' p:=fun a ha=>⟨JE (h a ha).1 hb.size,fun j=>(hb.frozen (p:=⟨a.block,j,none⟩) (h a ha).1).trans ((h a ha).2 j)⟩
theorem Fz.set(h:Fz w p)(b:Addr)(v:Value):Fz (w.setCell b v) p:=fun a ha=>⟨by simpa [World.setCell] using (h a ha).1,fun j=>by rw[World.frozen?_setCell];exact(h a ha).2 j⟩
theorem Fz.drew(h:Fz w p):Fz w.drew p:=h
theorem Fz.kept{row:Option Nat}(h:Fz w p)(hg:w.grownBy w' row)(hne:∀a,p=some a->some a.block≠row):Fz w' p:=fun a ha=>⟨JE (h a ha).1 hg.size,fun j=>(hg.frozen_far ⟨a.block,j,none⟩ (h a ha).1 (hne a ha)).trans ((h a ha).2 j)⟩
theorem ck(w:World)(row:Option Nat):w.grownBy w row:=⟨rfl,rfl,rfl,Jr _,fun _ _ _=>rfl⟩
theorem c8{a b c:World}{row:Option Nat}(h:a.grownBy b row)(k:b.grownBy c row):a.grownBy c row:=
 ⟨k.os.trans h.os,k.tape.trans h.tape,k.output.trans h.output,JA h.size k.size,fun i hi hne=>(k.block i (JE hi h.size) hne).trans (h.block i hi hne)⟩
theorem aL{a:World}(h:a.grownBy w (some g))(j:Nat)(v:Value):a.grownBy (w.setCell ⟨g,j,none⟩ v) (some g):=
 c8 h ⟨rfl,rfl,rfl,by simp[World.setCell],fun i _ hne=>heap_setCell_other w _ i v (fun e=>hne (by rw[e]))⟩
theorem dR{a:World}{row:Option Nat}(h:a.grownBy w row):a.grownBy w.drew row:=⟨h.os,h.tape,h.output,h.size,h.block⟩
theorem vx{a:World}{row:Option Nat}(h:a.grownBy w row)(n:Nat):a.grownBy (w.drewN n) row:=⟨h.os,h.tape,h.output,h.size,h.block⟩
theorem c7{a:World}(h:Below a.heap.size a w)(row:Option Nat):a.grownBy w row:=⟨h.os,h.tape,h.output,h.size,fun k hk _=>h.block k hk⟩
theorem lL(h:w.grownBy w' none):Below w.heap.size w w':=⟨h.os,h.tape,h.output,h.size,fun k hk=>h.block k hk (by simp)⟩
variable {B:Nat}
theorem cQ{a:World}(h:Below B a w)(hg:w.grownBy w' (some g))(hB:B<=w.heap.size)(hr:B<=g):Below B a w':=
 h.grown hg hB (fun k e=>by cases e;exact hr)
def au(n:Nat):List Int:=List.replicate n 0
theorem aZ(n:Nat):(au n).length=n:=by simp[au]
theorem dT(n j:Nat):gx (au n) j=0:=by
 by_cases h:j<n
 ·simp[gx,au,h]
 ·exact ak _ n (by simp[au]) j (by omega)
theorem val_zero(n:Nat):val (au n)=0:=vq _ (dT n)
theorem eR(n:Nat):U32 (au n):=fun j=>by rw[dT];decide
theorem mW(k:IntKind)(n:Nat):madeCells #[.int k 0] (n*1)=ca k (au n):=by
 apply Array.ext
 ·simp[size_madeCells,au,ca]
 ·intro i h1 h2
  simp[madeCells,au,ca,Nat.mod_one]
theorem G2(k:IntKind)(xs:List Int):(ca k xs).size=xs.length:=by simp[ca]
theorem mZ(k:IntKind)(xs:List Int):∀v∈xs.map (Value.int k),v.oneCell'=true:=fun v hv=>by
 obtain⟨x,_,rfl⟩:=List.mem_map.1 hv;rfl
variable {off:Nat}
theorem Rd.src{k:IntKind}{b:Nat}(h:∀j,j<xs.length->w.cell? ⟨b,off+j,none⟩=some (.int k (gx xs j))):
  ∀j v,(xs.map (Value.int k))[j]?=some v->w.cell? ((⟨b,off,none⟩:Addr).add j)=some v:=fun j v hv=>by
 rw[Addr.add_mid];rw[List.getElem?_map] at hv
 cases hx:xs[j]? with
 |none=>rw[hx] at hv;cases hv
 |some x=>
  rw[hx] at hv
  have hj:=(List.getElem?_eq_some_iff.1 hx);rw[h j hj.1,bZ xs j hj.1,hj.2];exact hv
theorem aS(p:Option Addr)(len cap:Nat)(xs:List Int)(w:World)(hl:xs.length=len)(hc:len<=cap)(hm:cap<=maxLen)(hx:Rd w p .u32 xs):
  Calls Tryz.prog 78 #[.slice p len cap] w fun e w'=>e=.returned (.slice p (ad xs) cap)/\w=w':=by
 unfold maxLen at hm
 go_enter Tryz.func78,Tryz.ntmps78;go_wp2;go_loop [3] (fun n=>∃k:Nat,k<=len/\n=.int .i64 k/\Hid (∀j,k<=j->gx xs j=0)) (fun n=>(intOf n).toNat)
 case atStart=>exact⟨len,Jr _,rfl,ak xs len (by omega)⟩
 case round=>
  obtain⟨k,hk,rfl,hz⟩:=hrel;by_cases h0:k=0
  ·subst h0
   go_wp2;go_ret;rw[aX xs 0 hz.out (.inl rfl)];exact⟨rfl,rfl⟩
  ·obtain⟨m,rfl⟩:∃m,k=m+1:=⟨k-1,by omega⟩
   obtain⟨b,off,rfl,hcell⟩:=hx (by omega)
   have hcm:=hcell m (by omega)
   clear hcell;by_cases h1:gx xs m=0
   ·have h2:(gx xs m==0)=true:=by simp only[h1];rfl
    go_wp2;go_round
    case rel=>exact⟨m,by omega,by go_num,fun j hj=>by
     rcases Ju m j with h|h
     ·exact hz.out j h
     ·have:j=m:=by omega
      subst this;exact h1⟩
    case measure=>simp[intOf]
   ·have h2:(gx xs m==0)=false:=by simpa using h1
    go_wp2;go_ret;rw[aX xs (m+1) hz.out (.inr h1)];exact⟨rfl,rfl⟩
theorem gK(g o n cap:Nat)(Z:List Int)(q:Option Addr)(m mc:Nat)(xs:List Int)(w:World)
  (hz:o+n<=Z.length) (hcap:cap<=1099511627776) (hn:n<=cap) (hR:Row w g 97 .u32 Z) (hU:U32 Z) (hx:xs.length=m) (hm:m<=n)
  (hX:Rd w q .u32 xs) (hXu:U32 xs) (hoff:0<m->Off g q):
  Calls Tryz.prog 184 #[.slice (some ⟨g,o,none⟩) n cap,.slice q m mc] w fun e w'=>∃c new,e=.returned (.int .u32 c)/\new.length=n/\U32 new/\0<=c/\c<=1/\
   val new+pw n*c=val ((Z.drop o).take n)+val xs/\Row w' g 97 .u32 (Z.take o++new++Z.drop (o+n))/\w.grownBy w' (some g):=by
 go_enter Tryz.func184,Tryz.ntmps184;go_wp2;go_loopw [5,12] (fun cv iv wr=>∃(k:Nat) (c:Int) (new:List Int),k<=m/\iv=.int .i64 k/\cv=.int .u64 c/\0<=c/\c<=1/\Hid (new.length=k/\U32 new/\val new+pw k*c=val ((Z.drop o).take k)+val (xs.take k)/\Row wr g 97 .u32 (Z.take o++new++Z.drop (o+new.length))/\w.grownBy wr (some g)))
  (fun _ iv _=>m-(intOf iv).toNat)
 case atStart=>exact⟨0,0,[],Jz _,rfl,rfl,by decide,by decide,rfl,jg,by simp[val],by rw[xN];exact hR,ck _ _⟩
 case round=>
  obtain⟨k,c,new,hk,rfl,rfl,hc0,hc1,H⟩:=hrel;by_cases hlt:k<m
  ·obtain⟨hl,hu,hv,hr,hg⟩:=H.out
   obtain⟨b,off,rfl,hcell⟩:=(hX.dw hg (hoff (by omega))) (by omega)
   have hcx:=hcell k (by omega)
   have hcz:=hr.at (j:=o+k) (by omega) (by omega) (by omega)
   have hfz:=hr.frozen (o+k);have bx:=hXu k;have bz:=hU (o+k);obtain⟨bx0,bx1⟩:=bx;obtain⟨bz0,bz1⟩:=bz;clear hl hu hv hr hg hcell;go_wp2;refine⟨⟨k+1,_,new++[(gx Z (o+k)+gx xs k+c)%4294967296],by omega,by go_num,rfl,by omega,by omega,?_⟩,by simp[intOf];omega⟩
   obtain⟨rfl,hu,hv,hr,hg⟩:=H.out;refine⟨by simp,aO hu (ef (by omega)),?_,?_,aL hg _ _⟩
   ·rw[bq,val_one,aD _ _ (by simp;omega),aD _ _ (by omega),bC,bE]
    have e:=iL (pw new.length) (gx Z (o+new.length)+gx xs new.length+c);simp only[JF] at e
    simp only[JG] at e ⊢
    omega
   ·exact hr.step (by omega) _
  ·have hkm:k=m:=by omega
   subst hkm;go_wp2;go_loopw [5,9] (fun cv iv wr=>∃(k:Nat) (c:Int) (new:List Int),k<=n/\iv=.int .i64 k/\cv=.int .u64 c/\0<=c/\c<=1/\Hid (new.length=k/\U32 new/\val new+pw k*c=val ((Z.drop o).take k)+val xs/\Row wr g 97 .u32 (Z.take o++new++Z.drop (o+new.length))/\w.grownBy wr (some g)))
    (fun _ iv _=>n-(intOf iv).toNat)
   case atStart=>
    refine⟨k,c,new,hm,rfl,rfl,hc0,hc1,?_⟩;have h:=H.out;rw[Jv (l:=xs) (by omega)] at h
    exact h
   case round=>
    clear H hc0 hc1;obtain⟨j,c,new,hj,rfl,rfl,hc0,hc1,H⟩:=hrel;by_cases hjn:j<n
    ·by_cases hcz:c=0
     ·subst hcz
      go_wp2;go_ret;obtain⟨hl,hu,hv,hr,hg⟩:=H.out;refine⟨0,new++((Z.drop o).take n).drop new.length,rfl,?_,aO hu (cd (ku hU o n) _),by decide,by decide,?_,?_,hg⟩
      ·have:=dJ Z o n hz
       simp at this ⊢;omega
      ·rw[bq,da ((Z.drop o).take n) new.length (by rw[dJ Z o n hz];omega),List.take_take,Nat.min_eq_left (by omega),hl]
       simp only[JC] at hv ⊢
       omega
      ·rw[<-xM Z new o n hz (by omega)]
       exact hr
     ·have hc1':c=1:=by omega
      subst hc1';obtain⟨hl,hu,hv,hr,hg⟩:=H.out;have hcz:=hr.at (j:=o+j) (by omega) (by omega) (by omega)
      have hfz:=hr.frozen (o+j);obtain⟨bz0,bz1⟩:=hU (o+j);clear hl hu hv hr hg;go_wp2
      ·have hne:((gx Z (o+j)+1)%4294967296 != 0)=true:=by assumption
       obtain⟨rfl,hu,hv,hr,hg⟩:=H.out;refine⟨⟨new.length+1,0,new++[(gx Z (o+new.length)+1)%4294967296],by omega,by go_num,rfl,by decide,by decide,by simp,aO hu (ef (by omega)),?_,hr.step (by omega) _,aL hg _ _⟩,by simp[intOf];omega⟩
       rw[bq,val_one,aD _ _ (by simp;omega),bC,bE]
       simp at hne
       rw[show(gx Z (o+new.length)+1)%4294967296=gx Z (o+new.length)+1 by omega]
       simp only[JF,JC,Int.mul_one] at hv ⊢
       omega
      ·have hne:((gx Z (o+j)+1)%4294967296 != 0)=false:=by assumption
       obtain⟨rfl,hu,hv,hr,hg⟩:=H.out;refine⟨⟨new.length+1,1,new++[(gx Z (o+new.length)+1)%4294967296],by omega,by go_num,rfl,by decide,by decide,by simp,aO hu (ef (by omega)),?_,hr.step (by omega) _,aL hg _ _⟩,by simp[intOf];omega⟩
       rw[bq,val_one,aD _ _ (by simp;omega),bC,bE]
       simp at hne
       rw[show gx Z (o+new.length)=4294967295 by omega]
       simp only[Int.mul_one] at hv ⊢
       omega
    ·have hjn':j=n:=by omega
     subst hjn';go_wp2;go_ret;obtain⟨hl,hu,hv,hr,hg⟩:=H.out;exact⟨c,new,rfl,hl,hu,hc0,hc1,hv,hl ▸ hr,hg⟩
theorem kI(g o n cap:Nat)(Z:List Int)(q:Option Addr)(m mc:Nat)(xs:List Int)(w:World)
  (hz:o+n<=Z.length) (hcap:cap<=1099511627776) (hn:n<=cap) (hR:Row w g 97 .u32 Z) (hU:U32 Z) (hx:xs.length=m) (hm:m<=n)
  (hX:Rd w q .u32 xs) (hXu:U32 xs) (hoff:0<m->Off g q):
  Calls Tryz.prog 185 #[.slice (some ⟨g,o,none⟩) n cap,.slice q m mc] w fun e w'=>∃c new,e=.returned (.int .u32 c)/\new.length=n/\U32 new/\0<=c/\c<=1/\
   val new+val xs=val ((Z.drop o).take n)+pw n*c/\Row w' g 97 .u32 (Z.take o++new++Z.drop (o+n))/\w.grownBy w' (some g):=by
 go_enter Tryz.func185,Tryz.ntmps185;go_wp2;go_loopw [5,12] (fun cv iv wr=>∃(k:Nat) (c:Int) (new:List Int),k<=m/\iv=.int .i64 k/\cv=.int .u64 c/\0<=c/\c<=1/\Hid (new.length=k/\U32 new/\val new+val (xs.take k)=val ((Z.drop o).take k)+pw k*c/\Row wr g 97 .u32 (Z.take o++new++Z.drop (o+new.length))/\w.grownBy wr (some g)))
  (fun _ iv _=>m-(intOf iv).toNat)
 case atStart=>exact⟨0,0,[],Jz _,rfl,rfl,by decide,by decide,rfl,jg,by simp[val],by rw[xN];exact hR,ck _ _⟩
 case round=>
  obtain⟨k,c,new,hk,rfl,rfl,hc0,hc1,H⟩:=hrel;by_cases hlt:k<m
  ·obtain⟨hl,hu,hv,hr,hg⟩:=H.out
   obtain⟨b,off,rfl,hcell⟩:=(hX.dw hg (hoff (by omega))) (by omega)
   have hcx:=hcell k (by omega)
   have hcz:=hr.at (j:=o+k) (by omega) (by omega) (by omega)
   have hfz:=hr.frozen (o+k);have bx:=hXu k;have bz:=hU (o+k);obtain⟨bx0,bx1⟩:=bx;obtain⟨bz0,bz1⟩:=bz;clear hl hu hv hr hg hcell;go_wp2;rw[Br _ _ _ bz0 bz1 bx0 bx1 hc0 hc1,Bs _ _ _ bz0 bz1 bx0 bx1 hc0 hc1];refine⟨⟨k+1,_,new++[(gx Z (o+k)-gx xs k-c)%4294967296],by omega,by go_num,rfl,by omega,by omega,?_⟩,by simp[intOf];omega⟩
   obtain⟨rfl,hu,hv,hr,hg⟩:=H.out;refine⟨by simp,aO hu (ef (by omega)),?_,?_,aL hg _ _⟩
   ·rw[bq,val_one,aD xs _ (by omega),aD _ _ (by simp;omega),bC,bE]
    have e:=iL (pw new.length) (gx Z (o+new.length)-gx xs new.length-c);simp only[Int.mul_sub] at e
    simp only[JG,Int.mul_neg] at e ⊢
    omega
   ·exact hr.step (by omega) _
  ·have hkm:k=m:=by omega
   subst hkm;go_wp2;go_loopw [5,9] (fun cv iv wr=>∃(k:Nat) (c:Int) (new:List Int),k<=n/\iv=.int .i64 k/\cv=.int .u64 c/\0<=c/\c<=1/\Hid (new.length=k/\U32 new/\val new+val xs=val ((Z.drop o).take k)+pw k*c/\Row wr g 97 .u32 (Z.take o++new++Z.drop (o+new.length))/\w.grownBy wr (some g)))
    (fun _ iv _=>n-(intOf iv).toNat)
   case atStart=>
    refine⟨k,c,new,hm,rfl,rfl,hc0,hc1,?_⟩;have h:=H.out;rw[Jv (l:=xs) (by omega)] at h
    exact h
   case round=>
    clear H hc0 hc1;obtain⟨j,c,new,hj,rfl,rfl,hc0,hc1,H⟩:=hrel;by_cases hjn:j<n
    ·by_cases hcz:c=0
     ·subst hcz
      go_wp2;go_ret;obtain⟨hl,hu,hv,hr,hg⟩:=H.out;refine⟨0,new++((Z.drop o).take n).drop new.length,rfl,?_,aO hu (cd (ku hU o n) _),by decide,by decide,?_,?_,hg⟩
      ·have:=dJ Z o n hz
       simp at this ⊢;omega
      ·rw[bq,da ((Z.drop o).take n) new.length (by rw[dJ Z o n hz];omega),List.take_take,Nat.min_eq_left (by omega),hl]
       simp only[JC] at hv ⊢
       omega
      ·rw[<-xM Z new o n hz (by omega)]
       exact hr
     ·have hc1':c=1:=by omega
      subst hc1';obtain⟨hl,hu,hv,hr,hg⟩:=H.out;have hcz:=hr.at (j:=o+j) (by omega) (by omega) (by omega)
      have hfz:=hr.frozen (o+j);obtain⟨bz0,bz1⟩:=hU (o+j);clear hl hu hv hr hg;go_wp2
      ·have hne:(gx Z (o+j) != 0)=true:=by assumption
       obtain⟨rfl,hu,hv,hr,hg⟩:=H.out;refine⟨⟨new.length+1,0,new++[(gx Z (o+new.length)-1)%4294967296],by omega,by go_num,rfl,by decide,by decide,by simp,aO hu (ef (by omega)),?_,hr.step (by omega) _,aL hg _ _⟩,by simp[intOf];omega⟩
       rw[bq,val_one,aD _ _ (by simp;omega),bC,bE]
       simp at hne
       rw[show(gx Z (o+new.length)-1)%4294967296=gx Z (o+new.length)-1 by omega]
       simp only[Int.mul_sub,JC,Int.mul_one] at hv ⊢
       omega
      ·have hne:(gx Z (o+j) != 0)=false:=by assumption
       obtain⟨rfl,hu,hv,hr,hg⟩:=H.out;refine⟨⟨new.length+1,1,new++[(gx Z (o+new.length)-1)%4294967296],by omega,by go_num,rfl,by decide,by decide,by simp,aO hu (ef (by omega)),?_,hr.step (by omega) _,aL hg _ _⟩,by simp[intOf];omega⟩
       rw[bq,val_one,aD _ _ (by simp;omega),bC,bE]
       simp at hne
       rw[show gx Z (o+new.length)=0 by omega]
       simp only[Int.mul_one,JC] at hv ⊢
       omega
    ·have hjn':j=n:=by omega
     subst hjn';go_wp2;go_ret;obtain⟨hl,hu,hv,hr,hg⟩:=H.out;exact⟨c,new,rfl,hl,hu,hc0,hc1,hv,hl ▸ hr,hg⟩
theorem mS:(Tryz.prog.info? 97).map (fun i=>(i.zero,i.size,i.bytes))=some (some (.int .u32 0),1,4):=by kernel_rfl
theorem jB(n:Nat)(h:n<=1099511627776)(w:World):(Instr.makeSlice 48 (.int .i64 n) (.int .i64 n)).run Tryz.prog w =
  .ok (.slice (some ⟨w.heap.size,0,none⟩) n n) (w.alloc (.cells (ca .u32 (au n)) 97)):=by
 have hi:=mS
 cases hq:Tryz.prog.info? 97 with
 |none=>rw[hq] at hi;cases hi
 |some i=>
  rw[hq] at hi
  simp only[Option.map_some,Option.some.injEq,Prod.mk.injEq] at hi
  obtain⟨h1,h2,h3⟩:=hi;have hr:=run_make (P:=Tryz.prog) w 48 97 i (.int .u32 0) Tryz.underlying48 hq h1 .i64 .i64 n n (by omega) (Int.le_refl _) (by rw[h3];omega) (by omega)
  rw[Int.toNat_natCast,h2] at hr
  rw[hr];exact congrArg (fun c=>Result.ok (Value.slice (some ⟨w.heap.size,0,none⟩) n n) (w.alloc (.cells c 97))) (mW .u32 n)
theorem mH(ty:TypeId)(w:World)(q:Option Addr)(m mc n:Nat)(xs:List Int)(hX:Rd w q .u32 xs)(hl:xs.length=m)(hmn:m<=n):
  (Builtin.copy_ #[48,48] ty #[.slice (some ⟨w.heap.size,0,none⟩) n n,.slice q m mc]).run Tryz.prog (w.alloc (.cells (ca .u32 (au n)) 97)) =
   .ok (.int .i64 m) (w.alloc (.cells (ca .u32 (xs++au (n-m))) 97)):=by
 by_cases h0:m=0
 ·subst h0
  have:xs=[]:=JB hl;subst this;exact run_copy_none (P:=Tryz.prog) _ 48 48 ty 97 _ _ n n 0 mc Tryz.underlying48 (by kernel_rfl) (by simp)
 ·obtain⟨b,off,rfl,hc⟩:=(hX.alloc (.cells (ca .u32 (au n)) 97)) (by omega)
  rw[run_copy_row Tryz.prog _ 48 48 ty 97 w.heap.size 0 n n ⟨b,off,none⟩ m mc _ 97 (xs.map (Value.int .u32)) Tryz.underlying48 (by kernel_rfl) (heap_alloc_new w _) (by simp only[List.length_map,hl];exact(Nat.min_eq_left hmn).symm) (Rd.src hc) (by simp[G2,aZ];omega) (mZ _ _)]
  rw[World.setRow_alloc_new];congr 2
  ·simp[hl]
  ·simp[ca,au,hl]
theorem gL(q:Option Addr)(m mc:Nat)(xs:List Int)(w:World)(hl:xs.length=m)(hm:m<=1099511627776)(hX:Rd w q .u32 xs):
  Calls Tryz.prog 164 #[.slice q m mc] w fun e w'=>e=.returned (.slice (some ⟨w.heap.size,0,none⟩) m m)/\w.alloc (.cells (ca .u32 xs) 97)=w':=by
 have hmk:=jB m hm;have hcp:=fun ty=>mH ty w q m mc m xs hX hl (Jr m)
 rw[Nat.sub_self,show xs++au 0=xs by simp[au]] at hcp
 go_enter Tryz.func164,Tryz.ntmps164;go_wp2;go_ret;exact⟨rfl,rfl⟩
theorem Dw(q:Option Addr)(m mc:Nat)(w:World)(hm:m<=mc)(hc:mc<=maxLen):
  Calls Tryz.prog 163 #[.slice q m mc] w fun e w'=>e=.returned (.slice q m m)/\w=w':=by
 unfold maxLen at hc
 go_enter Tryz.func163,Tryz.ntmps163;go_wp2;go_ret;exact⟨rfl,rfl⟩
def nsg(neg:Bool)(xs:List Int):Bool:=if ad xs=0 then false else neg
def nad(q:Option Addr)(xs:List Int):Option Addr:=if ad xs=0 then none else q
theorem b7(neg:Bool)(q:Option Addr)(m mc:Nat)(xs:List Int)(w:World)(hl:xs.length=m)(hm:m<=mc)(hc:mc<=maxLen)(hX:Rd w q .u32 xs):
  Calls Tryz.prog 115 #[.bool neg,.slice q m mc] w fun e w'=>e=.returned (.agg #[.bool (nsg neg xs),.slice (nad q xs) (ad xs) (ad xs)])/\Below w.heap.size w w':=by
 have ht:=aj xs;by_cases h0:ad xs=0
 ·rw[nsg,nad,if_pos h0,if_pos h0,h0]
  have hc':=hc;unfold maxLen at hc'
  go_enter Tryz.func115,Tryz.ntmps115;go_wp2_with (go_at_call 78;refine(aS q m mc xs _ hl hm hc (hX.alloc _)).mono ?_;rintro e w' ⟨rfl,rfl⟩);exact bodyPost_ret (v:=.agg #[.bool false,.slice none 0 0]) (by simp[results,Tryz.results115,go_sem]) rfl ⟨rfl,(Jt _ _).alloc (Jr _) _⟩
 ·rw[nsg,nad,if_neg h0,if_neg h0]
  have hc':=hc;unfold maxLen at hc'
  have h1:(((ad xs:Nat):Int)==0)=false:=beq_eq_false_iff_ne.2 (by omega)
  go_enter Tryz.func115,Tryz.ntmps115;go_wp2_with (first
   |(go_at_call 78;refine(aS q m mc xs _ hl hm hc (hX.alloc _)).mono ?_;rintro e w' ⟨rfl,rfl⟩)
   |(go_at_call 163;refine(Dw q (ad xs) mc _ (by omega) hc).mono ?_;rintro e w' ⟨rfl,rfl⟩))
  exact bodyPost_ret (v:=.agg #[.bool neg,.slice q (ad xs) (ad xs)]) (by simp[results,Tryz.results115,go_sem]) rfl ⟨rfl,(Jt _ _).alloc (Jr _) _⟩
theorem lh(m:Int)(w:World)(h0:0<=m)(h1:m<18446744073709551616):
  Calls Tryz.prog 116 #[.int .u64 m] w fun e w'=>e=.returned (.slice (some ⟨w.heap.size,0,none⟩) 2 2)/\w.alloc (.cells (ca .u32 [m%4294967296,m/4294967296]) 97)=w':=by
 go_enter Tryz.func116,Tryz.ntmps116;go_wp2;go_ret;exact⟨rfl,rfl⟩
end Go.Proofs.YtdjjlghlcffflaaGreatDoor
