/- Own. -/
import Derived.Test.YtdjjlghlcffflaaGreatDoorWk
import Derived.Shelf.Small.Bits
set_option linter.unusedVariables false
set_option linter.unusedSimpArgs false
set_option maxHeartbeats 8000000
set_option maxRecDepth 100000
namespace Go.Proofs.YtdjjlghlcffflaaGreatDoor
open Go.RowKit
structure NN(s:Bool)(xs:List Int)(z:Int):Prop where
 u:U32 xs
 nrm:ad xs=xs.length
 sg:xs.length=0->s=false
 v:aq s xs=z
variable {B n:Nat} {w:World} {s:Bool} {p:Option Addr} {xs:List Int} {z:Int}
theorem NI.nn(h:NI B w s p n xs z):NN s xs z:=⟨h.u,by rw[h.nrm,h.len],fun e=>h.sg (by rw[<-h.len,e]),h.v⟩
theorem ur(h:ad xs=xs.length):tr xs=xs:=by rw[tr,h,List.take_length]
variable {ys:List Int}
theorem Gt{t:Bool}(h:NN s xs z)(k:NN t ys z):s=t/\xs=ys:=by
 have key:∀{s t:Bool} {xs ys:List Int},NN s xs z->NN t ys z->val xs=val ys->s=t->s=t/\xs=ys:=fun h k hv hs=>by
  have:=Jq h.u k.u hv;rw[ur h.nrm,ur k.nrm] at this
  exact⟨hs,this⟩
 have hx:=ar h.u;have hy:=ar k.u;have h1:=h.v;have h2:=k.v;rcases Int.lt_trichotomy z 0 with hz|hz|hz
 ·obtain⟨a,b⟩:=wM h.u h1 hz
  obtain⟨c,d⟩:=wM k.u h2 hz;exact key h k (by rw[b,d]) (by rw[a,c])
 ·have e1:val xs=0:=by cases s<;>simp[aq] at h1<;>omega
  have e2:val ys=0:=by cases t<;>simp[aq] at h2<;>omega
  have f1:=h.sg (by rw[<-h.nrm];exact(bF h.u).2 e1)
  have f2:=k.sg (by rw[<-k.nrm];exact(bF k.u).2 e2)
  exact key h k (by rw[e1,e2]) (by rw[f1,f2])
 ·obtain⟨a,b⟩:=wN h.u h1 hz
  obtain⟨c,d⟩:=wN k.u h2 hz;exact key h k (by rw[b,d]) (by rw[a,c])
def pd(k:Nat):Int:=65536^k
theorem mj:pd 0=1:=rfl
theorem bU(k:Nat):pd (k+1)=65536*pd k:=by unfold pd;rw[Int.pow_succ,JI]
theorem dp(k:Nat):0<pd k:=Int.pow_pos (by decide)
theorem sG(a b:Nat):pd (a+b)=pd a*pd b:=Int.pow_add ..
theorem dg{a b:Nat}(h:a<=b):pd a<=pd b:=by
 obtain⟨c,rfl⟩:=Nat.exists_eq_add_of_le h;rw[sG];have h1:=dp a;have h2:=dp c;have:pd a*1<=pd a*pd c:=Jx (by omega) (by omega)
 omega
theorem sH(k:Nat):pd (2*k)=pw k:=by
 induction k with
 |zero=>rfl
 |succ k ih=>rw[show 2*(k+1)=2*k+1+1 by omega,bU,bU,bE,ih];omega
theorem cO(a b:List Int):vd (a++b)=vd a+pd a.length*vd b:=by
 induction a with
 |nil=>simp[vd,mj]
 |cons x r ih=>
  simp only[List.cons_append,vd,List.length_cons,bU,ih,JF,JG];omega
theorem dz(x:Int):vd [x]=x:=by simp[vd]
theorem aG(xs:List Int)(k:Nat):vd (xs.take (k+1))=vd (xs.take k)+pd k*gx xs k:=by
 by_cases h:k<xs.length
 ·rw[oW xs k h,cO,dz,List.length_take,Nat.min_eq_left (by omega)]
 ·rw[ak xs k (by omega) k (Jr _),Jv (by omega),Jv (by omega)];simp
theorem j9:U16 []:=fun j=>by rw[cS];decide
theorem eH(h:U16 xs)(k:Nat):U16 (xs.take k):=fun j=>by
 by_cases hj:j<k
 ·rw[bm xs k j hj];exact h j
 ·rw[ak (xs.take k) k (by simp;omega) j (by omega)];decide
theorem gJ(h:U16 xs)(k:Nat):U16 (xs.drop k):=fun j=>by rw[bC];exact h _
variable {a b:List Int}
theorem cV(ha:U16 a)(hb:U16 b):U16 (a++b):=fun j=>by
 by_cases hj:j<a.length
 ·rw[cz a b j hj];exact ha j
 ·rw[cf a b j (by omega)];exact hb _
variable {x:Int}
theorem dM(h:0<=x/\x<65536):U16 [x]:=rN h j9
theorem xW{r:List Int}(h:U16 (x::r)):(0<=x/\x<65536)/\U16 r:=
 ⟨by have:=h 0;rwa [cJ] at this,fun j=>by have:=h (j+1);rwa [d_] at this⟩
theorem aI(h:U16 xs):0<=vd xs:=by
 induction xs with
 |nil=>simp[vd]
 |cons x r ih=>obtain⟨h1,h2⟩:=xW h;have:=ih h2;simp only[vd];omega
theorem gg(h:U16 xs):vd xs<pd xs.length:=by
 induction xs with
 |nil=>simp[vd,mj]
 |cons x r ih=>obtain⟨h1,h2⟩:=xW h;have:=ih h2;simp only[vd,List.length_cons,bU];omega
theorem oY(xs:List Int)(k:Nat)(h:k<=xs.length):vd xs=vd (xs.take k)+pd k*vd (xs.drop k):=by
 have:=cO (xs.take k) (xs.drop k);rwa [List.take_append_drop,List.length_take,Nat.min_eq_left h] at this
theorem td(a:List Int)(j:Nat)(h:j<a.length):vd a=vd (a.take j)+pd j*gx a j+pd (j+1)*vd (a.drop (j+1)):=by
 rw[oY a (j+1) (by omega),aG a j]
theorem xY(ha:U16 a)(hb:U16 b)(j:Nat)(h1:j<a.length)(h2:j<b.length)(hd:a.drop (j+1)=b.drop (j+1))(h:gx a j<gx b j):vd a<vd b:=by
 rw[td a j h1,td b j h2,hd];have l1:=gg (eH ha j);have l2:=aI (eH hb j);rw[List.length_take,Nat.min_eq_left (by omega)] at l1
 have l3:pd j*gx a j<=pd j*(gx b j-1):=Jx (by omega) (Int.le_of_lt (dp j))
 rw[Int.mul_sub,Int.mul_one] at l3
 omega
theorem db(h:U16 xs)(ht:0<ad xs):pd (ad xs-1)<=vd xs:=by
 have hl:=aj xs;have ht':=aw xs ht;have hg:=h (ad xs-1);rw[td xs (ad xs-1) (by omega)]
 have h1:=aI (eH h (ad xs-1));have h2:=aI (gJ h (ad xs-1+1));have h3:=dp (ad xs-1);have h4:pd (ad xs-1)*1<=pd (ad xs-1)*gx xs (ad xs-1):=Jx (by omega) (by omega)
 have h5:=JJ (Int.le_of_lt (dp (ad xs-1+1))) h2;omega
theorem te(h:U16 xs):vd xs<pd (ad xs):=by
 have:=gg (mz h);rwa [lg,af] at this
theorem bj(h:U16 xs):ad xs=0<->vd xs=0:=by
 constructor
 ·intro h0
  rw[<-lg,tr,h0];rfl
 ·intro h0
  rcases Jw (ad xs) with ht|ht
  ·exact ht
  ·have:=db h ht;have:=dp (ad xs-1);omega
theorem ic(ha:U16 a)(hb:U16 b)(h:ad a<ad b):vd a<vd b:=by
 have h1:=te ha;have h2:=db hb (by omega)
 have h3:pd (ad a)<=pd (ad b-1):=dg (by omega)
 omega
def jn(ds:List Int)(n:Nat):List Int:=(List.range n).map fun j=>gx ds (2*j)+65536*gx ds (2*j+1)
theorem fk(ds:List Int)(n:Nat):(jn ds n).length=n:=by simp[jn]
theorem pG(ds:List Int)(n:Nat):jn ds (n+1)=jn ds n++[gx ds (2*n)+65536*gx ds (2*n+1)]:=by simp[jn,List.range_succ]
variable {ds:List Int}
theorem C6(h:U16 ds)(n:Nat):U32 (jn ds n):=by
 induction n with
 |zero=>exact jg
 |succ n ih=>rw[pG];exact aO ih (ef (by have:=h (2*n);have:=h (2*n+1);omega))
theorem Db(ds:List Int)(n:Nat):val (jn ds n)=vd (ds.take (2*n)):=by
 induction n with
 |zero=>rfl
 |succ n ih=>
  rw[pG,bq,ih,fk,val_one,show 2*(n+1)=2*n+1+1 by omega,aG,aG,bU,sH,JF]
  have:pw n*(65536*gx ds (2*n+1))=65536*pw n*gx ds (2*n+1):=by rw[<-JG,JI (pw n) 65536]
  omega
theorem I_(ds:List Int)(n j:Nat)(h:j<n):gx (jn ds n) j=gx ds (2*j)+65536*gx ds (2*j+1):=by
 rw[bZ _ _ (by rw[fk];exact h)];simp[jn]
variable {m:Nat}
theorem Jb(hU:U16 ds)(hn:ad ds=ds.length)(hs:ds.length=0->s=false)(hv:aF s ds=z)(hm:m=(ds.length+1)/2):NN s (jn ds m) z:=by
 refine⟨C6 hU m,?_,fun h=>hs (by rw[fk] at h;omega),?_⟩
 ·rw[fk]
  rcases Jw m with h0|h0
  ·rw[h0];rfl
  ·refine aX _ _ (fun j hj=>ak _ m (by rw[fk];omega) j hj) (.inr ?_)
   rw[I_ ds m (m-1) (by omega)]
   have ht:=aw ds (by omega)
   rw[hn] at ht
   have h1:=hU (2*(m-1));have h2:=hU (2*(m-1)+1);by_cases he:ds.length-1=2*(m-1)
   ·rw[he] at ht;omega
   ·rw[show ds.length-1=2*(m-1)+1 by omega] at ht;omega
 ·rw[aq,Db,Jv (by omega)];exact hv
theorem He(n:Nat):vd (au n)=0:=by
 have:=lf [] (au n) (dT n);simpa [vd] using this
theorem g_(n:Nat):U16 (au n):=fun j=>by rw[dT];decide
theorem jM(P t:Int):P*(t%65536)+65536*P*(t/65536)=P*t:=by
 have h:=Int.emod_add_mul_ediv t 65536;have e:65536*P*(t/65536)=P*(65536*(t/65536)):=by
  rw[JI 65536 P,JG]
 rw[e,<-JF,h]
theorem Dc(R:List Int)(j:Nat)(v:Int)(h:j<R.length):vd (R.set j v)=vd R+pd j*(v-gx R j):=by
 rw[td R j h,td (R.set j v) j (by rw[List.length_set];exact h),bK R j v h,List.take_set_of_le (Jr _),List.drop_set_of_lt (by omega),Int.mul_sub]
 omega
variable {R:List Int}
theorem c5(h:U16 R)(j:Nat){v:Int}(hv:0<=v/\v<65536):U16 (R.set j v):=fun k=>by
 by_cases hk:j=k
 ·subst hk
  by_cases hl:j<R.length
  ·rw[bK R j v hl];exact hv
  ·rw[ak (R.set j v) R.length (by simp) j (by omega)];decide
 ·rw[cl R j k v hk];exact h k
open Go.Shelf
def EG:Go.Shelf.Ren:=⟨fun|128=>103|n=>n,fun|3=>3|4=>4|5=>5|9=>9|46=>158|51=>97|n=>n,fun n=>n⟩
theorem Ca:Lays.n128 Tryz.prog EG:=
 {mixed:=by kernel_rfl
  f128:=by kernel_rfl
  t3:=by kernel_rfl
  a3:=fun _=>by kernel_rfl
  z3:=fun _=>by kernel_rfl
  v3:=fun _=>by kernel_rfl
  t4:=by kernel_rfl
  a4:=fun _=>by kernel_rfl
  z4:=fun _=>by kernel_rfl
  v4:=fun _=>by kernel_rfl
  t5:=by kernel_rfl
  a5:=fun _=>by kernel_rfl
  z5:=fun _=>by kernel_rfl
  v5:=fun _=>by kernel_rfl
  t9:=by kernel_rfl
  a9:=fun _=>by kernel_rfl
  z9:=fun _=>by kernel_rfl
  v9:=fun _=>by kernel_rfl
  t46:=by kernel_rfl
  a46:=fun _=>by kernel_rfl
  z46:=fun _=>by kernel_rfl
  v46:=fun _=>by kernel_rfl
  t51:=by kernel_rfl
  a51:=fun _=>by kernel_rfl
  z51:=fun _=>by kernel_rfl
  v51:=fun _=>by kernel_rfl}
theorem nO(x:Int)(w:World)(h0:0<=x)(h1:x<=4294967295):
  Calls Tryz.prog 103 #[.int .u32 x] w fun e w'=>e=.returned (.int .i64 (Lib.bitLen x.toNat))/\w'=w:=Any.bits_Len32 Ca x w h0 h1
def iC(xs:List Int):Int:=if ad xs=0 then 0 else 32*((ad xs:Int)-1)+(Lib.bitLen (gx xs (ad xs-1)).toNat:Int)
theorem bitLenAux_le(f x:Nat):Lib.bitLenAux f x<=f:=by
 induction f generalizing x with
 |zero=>simp[Lib.bitLenAux]
 |succ f ih=>simp only[Lib.bitLenAux];split<;>(have:=ih (x/2);omega)
theorem vO(s:Bool)(p:Option Addr)(n nc:Nat)(xs:List Int)(w:World)(hA:AI w p n nc xs):
  Calls Tryz.prog 51 #[.agg #[.bool s,.slice p n nc]] w fun e w'=>e=.returned (.int .i64 (iC xs))/\Below w.heap.size w w':=by
 have tx:=aj xs;have lx:=hA.len;have hs:=hA.sml;by_cases h0:ad xs=0
 ·rw[iC,if_pos h0]
  go_enter Tryz.func51,Tryz.ntmps51;go_wp2_with (go_at_call 78;refine(aS p n nc xs _ hA.len hA.cap hA.bnd (hA.rd.alloc _)).mono ?_;rintro e w' ⟨rfl,rfl⟩);go_ret;exact⟨rfl,(Jt _ _).alloc (Jr _) _⟩
 ·rw[iC,if_neg h0]
  have h1:(((ad xs:Nat):Int)==0)=false:=beq_eq_false_iff_ne.2 (by omega)
  obtain⟨j,hj⟩:∃j,ad xs=j+1:=⟨ad xs-1,by omega⟩
  obtain⟨b,off,rfl,hc⟩:=(hA.rd.alloc (.cells #[.bool s,.slice p n nc] 50)) (by omega)
  have hcj:=hc j (by omega)
  obtain⟨b0,b1⟩:=hA.u j;have hbl:Lib.bitLen (gx xs j).toNat<=64:=by
   exact bitLenAux_le 64 _
  clear hc;have htr:=aS (some ⟨b,off,none⟩) n nc xs (w.alloc (.cells #[.bool s,.slice (some ⟨b,off,none⟩) n nc] 50)) hA.len hA.cap hA.bnd (hA.rd.alloc _);rw[hj] at htr h1 ⊢
  have HT:=htr;go_enter Tryz.func51,Tryz.ntmps51;go_wp2_with fail;refine HT.mono ?_;rintro e w' ⟨rfl,rfl⟩;go_wp2_with fail;refine(nO _ _ b0 (by omega)).mono ?_
  rintro e w' ⟨rfl,rfl⟩;go_wp2;go_ret;refine⟨gU ?_,(Jt _ _).alloc (Jr _) _⟩;rw[JD];omega
def IB(b:Nat)(x:Int):Prop:=0<=x/\x<2^b/\(b=0\/(2:Int)^(b-1)<=x)
theorem eQ{a b:Nat}(h:a<=b):(2:Int)^a<=2^b:=by
 obtain⟨c,rfl⟩:=Nat.exists_eq_add_of_le h;rw[Int.pow_add];have h1:(0:Int)<2^a:=Int.pow_pos (by decide)
 have h2:(0:Int)<2^c:=Int.pow_pos (by decide)
 have:(2:Int)^a*1<=2^a*2^c:=Jx (by omega) (by omega)
 omega
theorem IB.uniq{b c:Nat}(h:IB b x)(k:IB c x):b=c:=by
 obtain⟨h0,h1,h2⟩:=h;obtain⟨k0,k1,k2⟩:=k;rcases Nat.lt_trichotomy b c with hb|hb|hb
 ·rcases k2 with k2|k2
  ·omega
  ·have:=eQ (show b<=c-1 by omega);omega
 ·exact hb
 ·rcases h2 with h2|h2
  ·omega
  ·have:=eQ (show c<=b-1 by omega);omega
theorem IB.join{b:Nat}{l:Int}(h:IB b x)(hb:0<b)(hl0:0<=l)(hl1:l<2^m):IB (m+b) (l+2^m*x):=by
 obtain⟨h0,h1,h2⟩:=h;have hm:(0:Int)<2^m:=Int.pow_pos (by decide)
 refine⟨by have:=JJ (Int.le_of_lt hm) h0;omega,?_,.inr ?_⟩
 ·rw[Int.pow_add]
  have:(2:Int)^m*x<=2^m*(2^b-1):=Jx (by omega) (by omega)
  rw[Int.mul_sub,Int.mul_one] at this
  omega
 ·rcases h2 with h2|h2
  ·omega
  ·rw[show m+b-1=m+(b-1) by omega,Int.pow_add]
   have:(2:Int)^m*2^(b-1)<=2^m*x:=Jx h2 (by omega)
   omega
theorem ig(f x:Nat)(h:x<2^f):IB (Lib.bitLenAux f x) x:=by
 induction f generalizing x with
 |zero=>
  have:x=0:=by simpa using h
  subst this;exact⟨by decide,by decide,.inl rfl⟩
 |succ f ih=>
  simp only[Lib.bitLenAux];split
  ·rename_i h0;subst h0;exact⟨by decide,by decide,.inl rfl⟩
  ·rename_i h0
   have hx:x/2<2^f:=by rw[Nat.pow_succ] at h;omega
   obtain⟨a0,a1,a2⟩:=ih (x/2) hx;refine⟨by omega,?_,.inr ?_⟩
   ·rw[Nat.add_comm,Int.pow_succ];omega
   ·rw[Nat.add_sub_cancel_left]
    rcases a2 with a2|a2
    ·rw[a2] at a1 ⊢
     have e:(2:Int)^0=1:=rfl;rw[e];omega
    ·have e:(2:Int)^Lib.bitLenAux f (x/2)=2*2^(Lib.bitLenAux f (x/2)-1):=by
      rcases Jw (Lib.bitLenAux f (x/2)) with hz|hz
      ·exfalso
       rw[hz] at a1 a2
       have e0:(2:Int)^0=1:=rfl;have e1:(2:Int)^(0-1)=1:=rfl;rw[e0] at a1;rw[e1] at a2;omega
      ·obtain⟨c,hc⟩:∃c,Lib.bitLenAux f (x/2)=c+1:=⟨Lib.bitLenAux f (x/2)-1,by omega⟩
       rw[hc,Int.pow_succ,JD];omega
     rw[e];omega
theorem vJ(k:Nat):pw k=2^(32*k):=by
 unfold pw;rw[show(4294967296:Int)=2^32 by decide,<-Int.pow_mul]
theorem Eh(h:U32 xs):∃b:Nat,iC xs=(b:Int)/\IB b (val xs):=by
 unfold iC;split
 ·rename_i h0
  refine⟨0,rfl,?_⟩;rw[(bF h).1 h0];exact⟨by decide,by decide,.inl rfl⟩
 ·rename_i h0
  have ht:=aw xs (by omega)
  have hg:=h (ad xs-1);have hl:=aj xs;refine⟨32*(ad xs-1)+Lib.bitLen (gx xs (ad xs-1)).toNat,by omega,?_⟩
  have hb:=ig 64 (gx xs (ad xs-1)).toNat (by omega)
  have e:((gx xs (ad xs-1)).toNat:Int)=gx xs (ad xs-1):=by omega
  rw[e] at hb
  have hb0:0<Lib.bitLen (gx xs (ad xs-1)).toNat:=by
   rcases Jw (Lib.bitLen (gx xs (ad xs-1)).toNat) with hz|hz
   ·exfalso
    have h2:=hb.2.1;have hz':Lib.bitLenAux 64 (gx xs (ad xs-1)).toNat=0:=hz;rw[hz'] at h2
    have e0:(2:Int)^0=1:=rfl;rw[e0] at h2;omega
   ·exact hz
  have hj:=IB.join (m:=32*(ad xs-1)) (l:=val (xs.take (ad xs-1))) hb hb0 (ar (an h _)) (by
   have:=bN (an h (ad xs-1));rw[List.length_take,Nat.min_eq_left (by omega),vJ] at this
   exact this)
  have ev:val xs=val (xs.take (ad xs-1))+2^(32*(ad xs-1))*gx xs (ad xs-1):=by
   rw[<-vJ,<-aD xs (ad xs-1) (by omega),show ad xs-1+1=ad xs by omega]
   exact(aK xs).symm
  rw[ev];exact hj
theorem Df(s:Bool)(p q:Option Addr)(n nc m mc:Nat)(xs ys:List Int)(w:World)(hA:AI w p n nc xs)(hB:AI w q m mc ys):
  Calls Tryz.prog 96 #[.agg #[.bool s,.slice p n nc],.agg #[.bool s,.slice q m mc]] w fun e w'=>∃s' p' n' zs,e=.returned (.agg #[.bool s',.slice p' n' n'])/\NI w.heap.size w' s' p' n' zs (aq s xs+aq s ys)/\n'<=n+m+1/\Below w.heap.size w w':=by
 have tx:=aj xs;have ty:=aj ys;have lx:=hA.len;have ly:=hB.len;have bx:=hA.sml;have by':=hB.sml;have hss:(s==s)=true:=by simp
 go_enter Tryz.func96,Tryz.ntmps96;go_wp2;go_quiet (first
  |(go_at_call_of 78 (Value.slice p n nc);exact Calls.quiet_of_same (dH (aS p n nc xs _ hA.len hA.cap hA.bnd (((hA.rd.alloc _).alloc _).alloc _))))
  |(go_at_call_of 78 (Value.slice q m mc);exact Calls.quiet_of_same (dH (aS q m mc ys _ hB.len hB.cap hB.bnd (((hB.rd.alloc _).alloc _).alloc _)))))
 go_wp2;have hX:=rU w (.bool s) (.slice p n nc) (.bool s) (.slice q m mc) (.bool false) (.slice none 0 0) 50 50 50 nq;generalize ((((w.alloc (Obj.cells #[Value.bool s,Value.slice p n nc] 50)).alloc (Obj.cells #[Value.bool s,Value.slice q m mc] 50)).alloc (Obj.cells #[Value.bool false,Value.slice none 0 0] 50)).drewN nq)=W at *
 have hA':=hA.below hX.below;have hB':=hB.below hX.below;have k0:=hX.ca0;have k1:=hX.ca1;go_region_held3 (fun w'=>w'.cell? ⟨w.heap.size,0,none⟩=some (.bool s)/\w'.cell? ⟨w.heap.size,1,none⟩=some (.slice p n nc)) (first|(simp[go_sem, *];done)|exact fW (by assumption) (by assumption))
  (first
   |(go_at_call 148;refine(zQ p q (ad xs) nc (ad ys) mc (tr xs) (tr ys) _ (af xs) (af ys) (by omega) (by omega) ?_ (cC hA.u) ?_ (cC hB.u)).mono ?_;exact hA'.tr.rd.drew;exact hB'.tr.rd.drew;rintro e w1 ⟨M,zs,rfl,m1,m2,m3,z1,z2,z3,z4,hb1⟩)
   |(go_at_call 115;refine(b7 s (some ⟨W.heap.size,0,none⟩) M M zs _ z1 (Jr _) (by unfold maxLen;omega) ?_).mono ?_;exact z4.a8;rintro e w2 ⟨rfl,hb2⟩;obtain⟨c0,c1,f0,f1⟩:=cj ((aQ hb1).trans (hb2.mono (aQ hb1).size)) hX.cr0 hX.cr1 hX.fr0 hX.fr1))
 go_wp2;have hsz:=hX.size;have hend:=ir (z:=aq s xs+aq s ys) (sg:=s) (u:=.bool (nsg s zs)) (v:=.slice (nad (some ⟨W.heap.size,0,none⟩) zs) (ad zs) (ad zs)) hX.below (r:=w.heap.size+1+1) (by omega) (by omega) z4 z2 (aQ hb1) hb2 (by rw[aK,aK] at z3;simp only[aq,z3];split<;>omega)
 refine bodyPost_ret (v:=.agg #[.bool (nsg s zs),.slice (nad (some ⟨W.heap.size,0,none⟩) zs) (ad zs) (ad zs)]) (by simp[results,Tryz.results96,go_sem,c0,c1]) rfl ⟨_,_,_,tr zs,rfl,hend.1,?_,hend.2⟩
 have:=aj zs;omega
theorem Hh(s:Bool)(p q:Option Addr)(n nc m mc:Nat)(xs ys:List Int)(w:World)(hA:AI w p n nc xs)(hB:AI w q m mc ys)(hge:val ys<=val xs):
  Calls Tryz.prog 96 #[.agg #[.bool s,.slice p n nc],.agg #[.bool (!s),.slice q m mc]] w fun e w'=>∃s' p' n' zs,e=.returned (.agg #[.bool s',.slice p' n' n'])/\NI w.heap.size w' s' p' n' zs (aq s xs+aq (!s) ys)/\n'<=n+m+1/\Below w.heap.size w w':=by
 have tx:=aj xs;have ty:=aj ys;have lx:=hA.len;have ly:=hB.len;have bx:=hA.sml;have by':=hB.sml;have hss:(s == !s)=false:=by cases s<;>rfl
 have hic:0<=bQ (val (tr xs)) (val (tr ys)):=by
  rw[aK,aK,bQ,if_neg (by omega)];split<;>decide
 go_enter Tryz.func96,Tryz.ntmps96;go_wp2;go_quiet (first
  |(go_at_call_of 78 (Value.slice p n nc);exact Calls.quiet_of_same (dH (aS p n nc xs _ hA.len hA.cap hA.bnd (((hA.rd.alloc _).alloc _).alloc _))))
  |(go_at_call_of 78 (Value.slice q m mc);exact Calls.quiet_of_same (dH (aS q m mc ys _ hB.len hB.cap hB.bnd (((hB.rd.alloc _).alloc _).alloc _)))))
 go_wp2_with fail;have hX0:=rU w (.bool s) (.slice p n nc) (.bool !s) (.slice q m mc) (.bool false) (.slice none 0 0) 50 50 50 nq;generalize ((((w.alloc (Obj.cells #[Value.bool s,Value.slice p n nc] 50)).alloc (Obj.cells #[Value.bool !s,Value.slice q m mc] 50)).alloc (Obj.cells #[Value.bool false,Value.slice none 0 0] 50)).drewN nq)=W0 at *
 have hA0:=(hA.below hX0.below).tr;have hB0:=(hB.below hX0.below).tr;refine(ey p q (ad xs) nc (ad ys) mc (tr xs) (tr ys) _ (af xs) (af ys) hA0.cap hA0.bnd hB0.cap hB0.bnd hA0.rd hA0.u hB0.rd hB0.u).mono ?_;rintro e W ⟨rfl,hb0⟩;have hX:=hX0.later hb0;have hA':=hA.below hX.below;have hB':=hB.below hX.below;have k0:=hX.ca0;have k1:=hX.ca1;clear hX0 hA0 hB0 hb0 W0;go_wp2;go_region_held3 (fun w'=>w'.cell? ⟨w.heap.size,0,none⟩=some (.bool s)/\w'.cell? ⟨w.heap.size,1,none⟩=some (.slice p n nc)) (first|(simp[go_sem, *];done)|exact fW (by assumption) (by assumption))
  (first
   |(go_at_call 149;refine(iN p q (ad xs) nc (ad ys) mc (tr xs) (tr ys) _ (af xs) (af ys) hB'.tr.cap hB'.bnd (by omega) ?_ (cC hA.u) ?_ (cC hB.u) (by rw[aK,aK];exact hge)).mono ?_;exact hA'.tr.rd.drew;exact hB'.tr.rd.drew;rintro e w1 ⟨zs,rfl,z1,z2,z3,z4,hb1⟩)
   |(go_at_call 115;refine(b7 s (some ⟨W.heap.size,0,none⟩) (ad xs) (ad xs) zs _ z1 (Jr _) (by unfold maxLen;omega) ?_).mono ?_;exact z4.a8;rintro e w2 ⟨rfl,hb2⟩;obtain⟨c0,c1,f0,f1⟩:=cj ((aQ hb1).trans (hb2.mono (aQ hb1).size)) hX.cr0 hX.cr1 hX.fr0 hX.fr1))
 go_wp2;have hsz:=hX.size;have hend:=ir (z:=aq s xs+aq (!s) ys) (sg:=s) (u:=.bool (nsg s zs)) (v:=.slice (nad (some ⟨W.heap.size,0,none⟩) zs) (ad zs) (ad zs)) hX.below (r:=w.heap.size+1+1) (by omega) (by omega) z4 z2 (aQ hb1) hb2 (by rw[aK,aK] at z3;cases s<;>simp[aq,z3]<;>omega)
 refine bodyPost_ret (v:=.agg #[.bool (nsg s zs),.slice (nad (some ⟨W.heap.size,0,none⟩) zs) (ad zs) (ad zs)]) (by simp[results,Tryz.results96,go_sem,c0,c1]) rfl ⟨_,_,_,tr zs,rfl,hend.1,?_,hend.2⟩
 have:=aj zs;omega
theorem Hi(s:Bool)(p q:Option Addr)(n nc m mc:Nat)(xs ys:List Int)(w:World)(hA:AI w p n nc xs)(hB:AI w q m mc ys)(hge:val xs<val ys):
  Calls Tryz.prog 96 #[.agg #[.bool s,.slice p n nc],.agg #[.bool (!s),.slice q m mc]] w fun e w'=>∃s' p' n' zs,e=.returned (.agg #[.bool s',.slice p' n' n'])/\NI w.heap.size w' s' p' n' zs (aq s xs+aq (!s) ys)/\n'<=n+m+1/\Below w.heap.size w w':=by
 have tx:=aj xs;have ty:=aj ys;have lx:=hA.len;have ly:=hB.len;have bx:=hA.sml;have by':=hB.sml;have hss:(s == !s)=false:=by cases s<;>rfl
 have hic:¬0<=bQ (val (tr xs)) (val (tr ys)):=by
  rw[aK,aK,cK hge];decide
 go_enter Tryz.func96,Tryz.ntmps96;go_wp2;go_quiet (first
  |(go_at_call_of 78 (Value.slice p n nc);exact Calls.quiet_of_same (dH (aS p n nc xs _ hA.len hA.cap hA.bnd (((hA.rd.alloc _).alloc _).alloc _))))
  |(go_at_call_of 78 (Value.slice q m mc);exact Calls.quiet_of_same (dH (aS q m mc ys _ hB.len hB.cap hB.bnd (((hB.rd.alloc _).alloc _).alloc _)))))
 go_wp2_with fail;have hX0:=rU w (.bool s) (.slice p n nc) (.bool !s) (.slice q m mc) (.bool false) (.slice none 0 0) 50 50 50 nq;generalize ((((w.alloc (Obj.cells #[Value.bool s,Value.slice p n nc] 50)).alloc (Obj.cells #[Value.bool !s,Value.slice q m mc] 50)).alloc (Obj.cells #[Value.bool false,Value.slice none 0 0] 50)).drewN nq)=W0 at *
 have hA0:=(hA.below hX0.below).tr;have hB0:=(hB.below hX0.below).tr;refine(ey p q (ad xs) nc (ad ys) mc (tr xs) (tr ys) _ (af xs) (af ys) hA0.cap hA0.bnd hB0.cap hB0.bnd hA0.rd hA0.u hB0.rd hB0.u).mono ?_;rintro e W ⟨rfl,hb0⟩;have hX:=hX0.later hb0;have hA':=hA.below hX.below;have hB':=hB.below hX.below;have k0:=hX.cb0;have k1:=hX.cb1;clear hX0 hA0 hB0 hb0 W0;go_wp2;go_region_held3 (fun w'=>w'.cell? ⟨w.heap.size+1,0,none⟩=some (.bool !s)/\w'.cell? ⟨w.heap.size+1,1,none⟩=some (.slice q m mc)) (first|(simp[go_sem, *];done)|exact fW (by assumption) (by assumption))
  (first
   |(go_at_call 149;refine(iN q p (ad ys) mc (ad xs) nc (tr ys) (tr xs) _ (af ys) (af xs) hA'.tr.cap hA'.bnd (by omega) ?_ (cC hB.u) ?_ (cC hA.u) (by rw[aK,aK];omega)).mono ?_;exact hB'.tr.rd.drew;exact hA'.tr.rd.drew;rintro e w1 ⟨zs,rfl,z1,z2,z3,z4,hb1⟩)
   |(go_at_call 115;refine(b7 (!s) (some ⟨W.heap.size,0,none⟩) (ad ys) (ad ys) zs _ z1 (Jr _) (by unfold maxLen;omega) ?_).mono ?_;exact z4.a8;rintro e w2 ⟨rfl,hb2⟩;obtain⟨c0,c1,f0,f1⟩:=cj ((aQ hb1).trans (hb2.mono (aQ hb1).size)) hX.cr0 hX.cr1 hX.fr0 hX.fr1))
 go_wp2;have hsz:=hX.size;have hend:=ir (z:=aq s xs+aq (!s) ys) (sg:=!s) (u:=.bool (nsg (!s) zs)) (v:=.slice (nad (some ⟨W.heap.size,0,none⟩) zs) (ad zs) (ad zs)) hX.below (r:=w.heap.size+1+1) (by omega) (by omega) z4 z2 (aQ hb1) hb2 (by rw[aK,aK] at z3;cases s<;>simp[aq,z3]<;>omega)
 refine bodyPost_ret (v:=.agg #[.bool (nsg (!s) zs),.slice (nad (some ⟨W.heap.size,0,none⟩) zs) (ad zs) (ad zs)]) (by simp[results,Tryz.results96,go_sem,c0,c1]) rfl ⟨_,_,_,tr zs,rfl,hend.1,?_,hend.2⟩
 have:=aj zs;omega
theorem ti(s t:Bool)(p q:Option Addr)(n nc m mc:Nat)(xs ys:List Int)(w:World)(hA:AI w p n nc xs)(hB:AI w q m mc ys):
  Calls Tryz.prog 96 #[.agg #[.bool s,.slice p n nc],.agg #[.bool t,.slice q m mc]] w fun e w'=>∃s' p' n' zs,e=.returned (.agg #[.bool s',.slice p' n' n'])/\NI w.heap.size w' s' p' n' zs (aq s xs+aq t ys)/\n'<=n+m+1/\Below w.heap.size w w':=by
 by_cases h:s=t
 ·subst h;exact Df s p q n nc m mc xs ys w hA hB
 ·have:t = !s:=by cases s<;>cases t<;>simp_all
  subst this;rcases Int.lt_or_le (val xs) (val ys) with hv|hv
  ·exact Hi s p q n nc m mc xs ys w hA hB hv
  ·exact Hh s p q n nc m mc xs ys w hA hB hv
theorem F0(s t:Bool)(p q:Option Addr)(n nc m mc:Nat)(xs ys:List Int)(w:World)(hA:AI w p n nc xs)(hB:AI w q m mc ys):
  Calls Tryz.prog 82 #[.agg #[.bool s,.slice p n nc],.agg #[.bool t,.slice q m mc]] w fun e w'=>∃s' p' n' zs,e=.returned (.agg #[.bool s',.slice p' n' n'])/\NI w.heap.size w' s' p' n' zs (aq s xs-aq t ys)/\n'<=n+m+1/\Below w.heap.size w w':=by
 go_enter Tryz.func82,Tryz.ntmps82;go_wp2_with fail;refine(ti s (!t) p q n nc m mc xs ys _ (((hA.alloc _).alloc _).alloc _) (((hB.alloc _).alloc _).alloc _)).mono ?_;rintro e w1 ⟨s',p',n',zs,rfl,hN,hn,hb⟩;have hX:=rU w (.bool s) (.slice p n nc) (.bool t) (.slice q m mc) (.bool false) (.slice none 0 0) 50 50 50 0;obtain⟨c0,c1,f0,f1⟩:=cj hb hX.cr0 hX.cr1 hX.fr0 hX.fr1;go_wp2;have hsz:=hX.size;have hend:=Ii (u:=.bool s') (v:=.slice p' n' n') hX.below (r:=w.heap.size+1+1) (by omega) (by omega) hN hb
 refine bodyPost_ret (v:=.agg #[.bool s',.slice p' n' n']) (by simp[results,Tryz.results82,go_sem,c0,c1]) rfl ⟨_,_,_,zs,rfl,?_,hn,hend.2⟩
 have:=hend.1;rwa [D6,show aq s xs + - aq t ys=aq s xs-aq t ys by omega] at this
end Go.Proofs.YtdjjlghlcffflaaGreatDoor
